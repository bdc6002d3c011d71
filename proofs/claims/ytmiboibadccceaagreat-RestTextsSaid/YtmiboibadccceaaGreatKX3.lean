/- What front and dict tell, and what codec reads of texts: fresh. -/
import Derived.Test.YtmiboibadccceaaGreatKX0
import Derived.Test.YtmiboibadccceaaGreatKW7
namespace Go.Proofs.YtmiboibadccceaaGreat
open Go.RowKit
set_option linter.unusedVariables false

set_option maxHeartbeats 1000000 in
set_option maxRecDepth 100000 in
theorem freadf_ok (s : List UInt8) (n : Nat) (w : World) (hs : s.length ≤ maxLen) (hn : n ≤ 64) :
    Calls Tryz.prog 105 #[.string (str s), .int .i64 (n : Int)] w (TextsPostF (F.fr n [] s) w) := by
  obtain ⟨i0, hi, hz0, hz1, hz2⟩ := info_parts info_str
  unfold maxLen at hs
  have H0 := Lib.hid (show F.fr n [] s = glue [] (F.fr (n - ([] : List (List UInt8)).length) [] s) by rw [glue_nil]; rfl)
  obtain ⟨R, hR⟩ : ∃ R, R = F.fr n [] s := ⟨_, rfl⟩
  rw [← hR] at H0 ⊢
  clear hR
  have g1 : decide ((64 : Int) < (n : Int)) = false := decide_eq_false (by omega)
  have g2 : decide ((n : Int) < 0) = false := decide_eq_false (by omega)
  go_enter Tryz.func105, Tryz.ntmps105
  go_wp2_with (at_make; refine wpList_make_full _ rfl _ _ 31 rfl w.heap.size 9 i0 (.string ByteArray.empty) 1 Tryz.underlying31 hi hz0 hz1 .i64 .i64 _ _ n rfl rfl rfl rfl (by rw [hz2]; omega) (by unfold maxLen; omega) (Nat.le_refl _) ?_; intro w0 hown0 hgrow0)
  have hb0 : Below w.heap.size w w0 := (Below.refl _ _).grown hgrow0 (Nat.le_refl _) (fun k hk => by cases hk)
  have hrow := made_trow hown0
  obtain ⟨g, hg⟩ : ∃ g, g = w.heap.size := ⟨_, rfl⟩
  have hgl : w.heap.size ≤ g := by omega
  rw [← hg] at hrow ⊢
  have hrow' : TRow w.heap.size (List.replicate n []) (.slice (some ⟨g, 0, none⟩) n n) w0 := by rw [← hg]; exact hrow
  clear hown0 hgrow0 hrow hg
  go_loopw [0, 7, 8, 9, 10, 11, 20] (fun t b _ _ _ _ i wr => ∃ (acc : List (List UInt8)) (last r : List UInt8), acc.length ≤ n ∧ i = .int .i64 (acc.length : Nat) ∧ t = .string (str r) ∧ b = .string (str last) ∧ last.length ≤ 16 ∧ r.length ≤ 9223372036854775807 ∧ TRow w.heap.size (acc ++ List.replicate (n - acc.length) []) (.slice (some ⟨g, 0, none⟩) n n) wr ∧ Below w.heap.size w wr ∧ Hid (R = glue acc (F.fr (n - acc.length) last r))) (fun _ _ _ _ _ _ i _ => n - (intOf i).toNat)
  case atStart => exact ⟨[], [], s, by simp, rfl, rfl, rfl, by simp, by omega, hrow', hb0, H0⟩
  case round =>
    obtain ⟨acc, last, r, hj, rfl, rfl, rfl, hl, hr, hrw, hbw, HJ⟩ := hrel
    clear hrow' hb0
    obtain ⟨j, hj2⟩ : ∃ j, j = acc.length := ⟨_, rfl⟩
    rw [← hj2] at hj HJ hrw ⊢
    have HJ2 := Lib.hid hj2
    clear hj2
    by_cases hlt : j < n
    · have hnx := next_any r last wr (by unfold maxLen; omega) hl
      obtain ⟨b1, b2, b3⟩ := next_bd r last hl
      have HGB := Lib.hid (glue_bad acc (n - (j + 1)) last r hl)
      have HGO := Lib.hid (glue_on acc (n - (j + 1)) last r hl)
      rw [show n - (j + 1) + 1 = n - j by omega] at HGB HGO
      unfold NextPost at hnx
      obtain ⟨t, q, e, he⟩ : ∃ t q e, nextR r last = (t, q, e) := ⟨_, _, _, rfl⟩
      rw [he] at hnx b1 b2 b3 HGB HGO
      simp only at hnx b1 b2 b3 HGB HGO
      have HN := Lib.hid hnx
      have HFS := Lib.hid (show (acc ++ List.replicate (n - j) []).set j t = (acc ++ [t]) ++ List.replicate (n - (acc ++ [t]).length) [] by have h2 := HJ2.out; rw [h2]; exact fill_step acc t n (by omega))
      have HL2 := Lib.hid (show (acc ++ [t]).length = j + 1 by have h2 := HJ2.out; rw [h2]; simp)
      have hjI : (j : Int) < (n : Int) := by omega
      clear hnx he
      by_cases h0 : e = 0
      · subst h0
        have HRN := Lib.hid (show R = glue (acc ++ [t]) (F.fr (n - (j + 1)) t q) by rw [HJ.out]; exact HGO.out rfl)
        clear HGB HGO HJ
        go_wp2_with fail
        refine (HN.out).mono ?_
        rintro e2 w1 ⟨rfl, hb1⟩
        have hrw1 := hrw.below hb1
        have c1 := hrw1.cell j (by rw [List.length_append, List.length_replicate]; have := HJ2.out; omega)
        have f1 := hrw1.free j
        have hrw2 := hrw1.put j t
        rw [HFS.out] at hrw2
        have hbw2 : Below w.heap.size w (w1.setCell ⟨g, j, none⟩ (.string (str t))) := (below_then hbw hb1).setCell (p := ⟨g, j, none⟩) hgl _
        generalize (acc ++ List.replicate (n - j) []).getD j [] = old at *
        have HRW := Lib.hid hrw2
        clear hrw hrw1 hrw2
        go_wp2_with fail
        exact ⟨⟨acc ++ [t], t, q, by rw [HL2.out]; omega, by rw [HL2.out]; go_num, rfl, rfl, b1, by omega, HRW.out, hbw2, Lib.hid (by rw [HL2.out]; exact HRN.out)⟩, by simp [intOf]; omega⟩
      · have HRN := Lib.hid (show R = ([], e) by rw [HJ.out]; exact HGB.out h0)
        have g3 : ((e : Int) != 0) = true := by rw [bne_iff_ne]; omega
        clear HGB HGO HJ
        go_wp2_with fail
        refine (HN.out).mono ?_
        rintro e2 w1 ⟨rfl, hb1⟩
        go_wp2_with fail
        go_ret2
        rw [HRN.out]
        exact TextsPostF.none _ (below_then hbw hb1)
    · obtain rfl : j = n := by omega
      rw [Nat.sub_self, glue_end] at HJ
      rw [Nat.sub_self, List.replicate_zero, List.append_nil] at hrw
      have hsr := str_size r
      by_cases hr0 : r = []
      · subst hr0
        have HRN := Lib.hid (show R = (acc, 0) by rw [HJ.out, if_pos rfl])
        have htx := hrw.tf
        have hne : (str []).toList.isEmpty = true := by rw [str_toList]; rfl
        clear HJ hrw
        go_wp2_with fail
        go_ret2
        rw [HRN.out]
        exact ⟨_, _, by simp only; rw [← HJ2.out]; rfl, htx, hbw⟩
      · have HRN := Lib.hid (show R = ([], 1) by rw [HJ.out, if_neg hr0])
        have hne : (str r).toList.isEmpty = false := by
          rw [str_toList]
          cases r with
          | nil => exact absurd rfl hr0
          | cons x t => rfl
        generalize str r = S at *
        clear HJ hrw
        go_wp2_with fail
        go_ret2
        rw [HRN.out]
        exact TextsPostF.none 1 hbw

theorem freadf_any (s : List UInt8) (n : Int) (w : World) (hs : s.length ≤ maxLen) :
    Calls Tryz.prog 105 #[.string (str s), .int .i64 n] w (TextsPostF (freadR s n) w) := by
  unfold freadR
  by_cases h0 : n < 0
  · rw [if_pos h0]; exact (fread_low _ n w h0).mono fun _ _ h => h.toF
  rw [if_neg h0]
  by_cases h1 : 64 < n
  · rw [if_pos h1]; exact (fread_high _ n w h0 h1).mono fun _ _ h => h.toF
  rw [if_neg h1]
  have := freadf_ok s n.toNat w hs (by omega)
  rwa [show ((n.toNat : Nat) : Int) = n by omega] at this

set_option maxHeartbeats 2000000 in
set_option maxRecDepth 100000 in
theorem dtextsf_any (a : Option Addr) (c : Nat) (b : List (List UInt8)) (a2 : Option Addr) (c2 : Nat) (cs : List Nat) (w : World) (hx : ∀ x ∈ cs, x < 18446744073709551616) (hu : Txts w w.heap.size a b) (hu2 : Nums w w.heap.size a2 cs) :
    Calls Tryz.prog 79 #[.slice a b.length c, .slice a2 cs.length c2] w (TextsPostF (textsR b cs) w) := by
  obtain ⟨i0, hi, hz0, hz1, hz2⟩ := info_parts info_str
  have HCK := Lib.hid (dcheck_any a c b w hu)
  unfold textsR
  by_cases hr : bookR b ≠ 0
  · rw [if_pos hr]
    generalize bookR b = er at *
    have g1 : ((er : Int) != 0) = true := by rw [bne_iff_ne]; omega
    clear hu hu2 hx
    go_enter Tryz.func79, Tryz.ntmps79
    go_wp2_with fail
    refine (HCK.out).mono ?_
    rintro e w1 ⟨rfl, hb1⟩
    go_wp2_with fail
    go_ret2
    exact TextsPostF.none er hb1
  rw [if_neg hr]
  have hr0 : bookR b = 0 := by omega
  rw [hr0] at HCK
  have hbl := (bookR_len hr0).1
  by_cases h64 : 64 < cs.length
  · rw [if_pos h64]
    have g2 : decide ((64 : Int) < (cs.length : Int)) = true := decide_eq_true (by omega)
    clear hu hu2 hx hr hr0
    go_enter Tryz.func79, Tryz.ntmps79
    go_wp2_with fail
    refine (HCK.out).mono ?_
    rintro e w1 ⟨rfl, hb1⟩
    go_wp2_with fail
    go_ret2
    exact TextsPostF.none 2 hb1
  rw [if_neg h64]
  have g2 : decide ((64 : Int) < (cs.length : Int)) = false := decide_eq_false (by omega)
  have HU := Lib.hid hu
  have HU2 := Lib.hid hu2
  have HX := Lib.hid (fun j (h : j < cs.length) => hx _ (getD_mem cs j h))
  obtain ⟨f, hf⟩ : ∃ f : Nat → List UInt8, f = fun c => b.getD c [] := ⟨_, rfl⟩
  have HFV := Lib.hid (fun c => show f c = b.getD c [] by rw [hf])
  rw [← hf]
  obtain ⟨R, hR⟩ : ∃ R, R = (if cs.any (fun c => decide (b.length ≤ c)) then (([] : List (List UInt8)), 3) else (cs.map f, 0)) := ⟨_, rfl⟩
  rw [← hR]
  have HBAD := Lib.hid (fun j (h : j < cs.length) (hj : b.length ≤ cs.getD j 0) => show R = ([], 3) by
    rw [hR, if_pos]; exact List.any_eq_true.2 ⟨_, getD_mem cs j h, by simpa using hj⟩)
  have HGOOD := Lib.hid (fun (h : Plcs cs b.length cs.length) => show R = (cs.map f, 0) by rw [hR, h.all, if_neg (by simp)])
  have HST := Lib.hid (fun j h => get_step f cs j h)
  have HLN := Lib.hid (fun j h => get_len f cs j h)
  have HEND := Lib.hid (show (cs.take cs.length).map f ++ List.replicate (cs.length - cs.length) [] = cs.map f by rw [List.take_length, Nat.sub_self]; simp)
  have HML := Lib.hid (show (cs.map f).length = cs.length by simp)
  have hcl : cs.length ≤ 64 := by omega
  have hwl : IntKind.u64.wrap (b.length : Int) = (b.length : Int) := by rw [IntKind.wrap_u64]; omega
  clear hu hu2 hx hr hr0 hf hR h64
  go_enter Tryz.func79, Tryz.ntmps79
  go_wp2_with fail
  refine (HCK.out).mono ?_
  rintro e w1 ⟨rfl, hb1⟩
  go_wp2_with (at_make; refine wpList_make_full _ rfl _ _ 31 rfl w1.heap.size 9 i0 (.string ByteArray.empty) 1 Tryz.underlying31 hi hz0 hz1 .i64 .i64 _ _ cs.length rfl rfl rfl rfl (by rw [hz2]; omega) (by unfold maxLen; omega) (Nat.le_refl _) ?_; intro w0 hown0 hgrow0)
  have hb0 : Below w1.heap.size w1 w0 := (Below.refl _ _).grown hgrow0 (Nat.le_refl _) (fun k hk => by cases hk)
  have hrow0 := made_trow hown0
  obtain ⟨g, hg⟩ : ∃ g, g = w1.heap.size := ⟨_, rfl⟩
  rw [← hg] at hrow0 ⊢
  have hgl : w1.heap.size ≤ g := by omega
  have hgw : w.heap.size ≤ g := by have := hb1.size; omega
  have hbw0 := below_then hb1 hb0
  clear hg hown0 hgrow0
  go_wp2_with fail
  go_loopw [8, 9, 23] (fun _ _ i wr => ∃ j : Nat, j ≤ cs.length ∧ i = .int .i64 j ∧ Hid (Plcs cs b.length j) ∧ TRow g ((cs.take j).map f ++ List.replicate (cs.length - j) []) (.slice (some ⟨g, 0, none⟩) cs.length cs.length) wr ∧ Below w.heap.size w wr) (fun _ _ i _ => cs.length - (intOf i).toNat)
  case atStart => exact ⟨0, by omega, rfl, Lib.hid (fun i hi => absurd hi (by omega)), by simpa using hrow0, hbw0⟩
  case round =>
    obtain ⟨j, hj, rfl, HPL, hrow, hbw⟩ := hrel
    by_cases hlt : j < cs.length
    · obtain ⟨bb, off, rfl, hbb, hcc⟩ := HU2.out (fun e => by rw [e] at hlt; simp at hlt)
      have cj := (hbw.cell (p := ⟨bb, off + j, none⟩) hbb).trans (hcc j hlt)
      have hxj := HX.out j hlt
      have HS := Lib.hid (HST.out j hlt)
      have hln := HLN.out j hj
      have HBJ := Lib.hid (HBAD.out j hlt)
      have HPS := Lib.hid (fun h => HPL.out.succ h)
      have hfv := HFV.out (cs.getD j 0)
      generalize cs.getD j 0 = x at *
      have hjI : (j : Int) < (cs.length : Int) := by omega
      clear hcc
      by_cases hge : b.length ≤ x
      · have g3 : decide (b.length ≤ x) = true := decide_eq_true hge
        have HB3 := Lib.hid (HBJ.out hge)
        clear hge hln hfv
        go_wp2_with fail
        go_ret2
        rw [HB3.out]
        exact TextsPostF.none 3 hbw
      · have g3 : decide (b.length ≤ x) = false := decide_eq_false hge
        have HPN := Lib.hid (HPS.out (by omega))
        have hxb : x < b.length := by omega
        have hxI : (x : Int) < (b.length : Int) := by omega
        obtain ⟨b1, off1, rfl, hb1l, hcc1⟩ := HU.out (fun e => by rw [e] at hxb; simp at hxb)
        have cx := (hbw.cell (p := ⟨b1, off1 + x, none⟩) hb1l).trans (hcc1 x hxb)
        rw [← hfv] at cx
        generalize (cs.take j).map f ++ List.replicate (cs.length - j) [] = acc at *
        generalize f x = y at *
        have cg := hrow.cell j (by omega)
        have fg := hrow.free j
        have HR2 := Lib.hid (hrow.put j y)
        have HBW2 := Lib.hid (hbw.setCell (p := ⟨g, j, none⟩) hgw (.string (str y)))
        generalize acc.getD j [] = oz at *
        generalize str y = Y at *
        generalize str oz = OZ at *
        clear hge hln hfv hcc1 hrow
        go_wp2_with fail
        exact ⟨⟨j + 1, by omega, by go_num, HPN, by rw [← HS.out]; exact HR2.out, HBW2.out⟩, by simp [intOf]; omega⟩
    · obtain rfl : j = cs.length := by omega
      rw [HEND.out] at hrow
      have HT := Lib.hid (show Txts wr wr.heap.size (some ⟨g, 0, none⟩) (cs.map f) ∧ Fr w.heap.size wr (some ⟨g, 0, none⟩) (cs.map f).length from ⟨hrow.tf.1, hrow.tf.2.low hgw⟩)
      have HRS := Lib.hid (HGOOD.out HPL.out)
      clear hrow
      go_wp2_with fail
      go_ret2
      rw [HRS.out]
      exact ⟨some ⟨g, 0, none⟩, cs.length, by rw [HML.out]; rfl, HT.out, hbw⟩

set_option maxHeartbeats 4000000 in
set_option maxRecDepth 100000 in
theorem toldBookf_any (s : List UInt8) (m : Nat) (w : World) (hs : s.length ≤ maxLen) (hm : m ≤ 64) :
    Calls Tryz.prog 104 #[.string (str s), .int .i64 (m : Int)] w (TextsPostF (btR m s) w) := by
  have hv1 := vread_any (str s) w (by rw [str_size]; exact hs)
  rw [str_data] at hv1
  unfold ReadPost at hv1
  have hb1 := V.rd_bad s
  have hsz := str_size s
  have hmx := hs
  unfold maxLen at hmx
  obtain ⟨x, k, e, he⟩ : ∃ x k e, V.rd s = (x, k, e) := ⟨_, _, _, rfl⟩
  rw [he] at hv1 hb1
  simp only at hv1
  have HV1 := Lib.hid hv1
  clear hv1
  by_cases h0 : e = 0
  · subst h0
    obtain ⟨hk1, hkl, _, hx, hk9, _⟩ := V.rd_ok _ _ _ he
    by_cases h2 : 64 < x
    · have HRE := Lib.hid (bt_e2 (m := m) he h2)
      have g3 : decide (64 < x) = true := decide_eq_true h2
      have g3' : decide ((64 : Int) < (x : Int)) = true := decide_eq_true (by omega)
      generalize str s = S at *
      clear hb1 he h2 hs hsz
      go_enter Tryz.func104, Tryz.ntmps104
      go_wp2_with fail
      refine (HV1.out).mono ?_
      rintro e2 w1 ⟨rfl, hbl⟩
      go_wp2_with fail
      go_ret2
      rw [HRE.out]
      exact TextsPostF.none _ hbl
    have g3 : decide (64 < x) = false := decide_eq_false h2
    have g3' : decide ((64 : Int) < (x : Int)) = false := decide_eq_false (by omega)
    have hwx : IntKind.i64.wrap (x : Int) = (x : Int) := by rw [IntKind.wrap_i64]; omega
    have HBW := Lib.hid (fun W => wideOf_any x W (by omega))
    have hwl := bw_le x (by omega)
    obtain ⟨q, hq⟩ : ∃ q, B.sz (m * bw x) = q := ⟨_, rfl⟩
    have HE3 := Lib.hid (bt_e3 (m := m) he h2 hq)
    have HE4 := Lib.hid (fun e u => bt_e4 (m := m) (e := e) (u := u) he h2 hq)
    have HE5 := Lib.hid (fun e u b => bt_e5 (m := m) (e := e) (u := u) (b := b) he h2 hq)
    have HOK := Lib.hid (fun u b => bt_ok (m := m) (u := u) (b := b) he h2 hq)
    obtain ⟨u, eu, hu⟩ : ∃ u eu, unpR ((s.drop k).take q) m (bw x : Nat) = (u, eu) := ⟨_, _, rfl⟩
    obtain ⟨b, eb, hb⟩ : ∃ b eb, freadR (s.drop (k + q)) x = (b, eb) := ⟨_, _, rfl⟩
    have hue := unpR_facts hu hwl
    have hup := fun W => unpack_any (str ((s.drop k).take q)) m (bw x : Nat) W (by rw [str_size, List.length_take, List.length_drop]; unfold maxLen; omega)
    rw [str_data, hu] at hup
    have hfr := fun W => fread_any (s.drop (k + q)) x W (by rw [List.length_drop]; unfold maxLen; omega)
    rw [hb] at hfr
    have hXT : (str s).extract (k + q) (str s).size = str (s.drop (k + q)) := str_drop s _
    have hXC : (str s).extract k (k + q) = str ((s.drop k).take q) := str_cut s k q
    rw [← hXC] at hup
    rw [← hXT] at hfr
    unfold AllPost at hup
    unfold TextsPost at hfr
    simp only at hup hfr
    have HUP := Lib.hid hup
    have HFR := Lib.hid hfr
    have hP : m * bw x ≤ 64 * 64 := Nat.mul_le_mul hm hwl
    have hPI : ((m : Int) * ((bw x : Nat) : Int)) = ((m * bw x : Nat) : Int) := by simp
    unfold B.sz at hq
    rw [hu] at HE4 HE5 HOK
    rw [hb] at HE5 HOK
    clear hu hb hXT hXC hup hfr
    generalize bw x = wd at *
    generalize m * wd = P at *
    have hwP : IntKind.i64.wrap (P : Int) = (P : Int) := by rw [IntKind.wrap_i64]; omega
    have hw7 : IntKind.i64.wrap ((P : Int) + 7) = (P : Int) + 7 := by rw [IntKind.wrap_i64]; omega
    have hq8 : ((P : Int) + 7) / 8 = (q : Int) := by omega
    have hq9 : ((P : Int) + 7).tdiv 8 = (q : Int) := by rw [Int.tdiv_eq_ediv_of_nonneg (by omega)]; exact hq8
    have hwq : IntKind.i64.wrap (q : Int) = (q : Int) := by rw [IntKind.wrap_i64]; omega
    have hwkq : IntKind.i64.wrap ((k : Int) + (q : Int)) = (k : Int) + (q : Int) := by rw [IntKind.wrap_i64]; omega
    have hkqn : ((k : Int) + (q : Int)).toNat = k + q := by omega
    have hkq0 : (0 : Int) ≤ (k : Int) + (q : Int) := by omega
    have hkq1 : (k : Int) ≤ (k : Int) + (q : Int) := by omega
    by_cases h5 : s.length < k + q
    · have HRE := Lib.hid (HE3.out h5)
      have g6 : decide (((str s).size : Int) < (k : Int) + (q : Int)) = true := decide_eq_true (by omega)
      have g6' : decide ((str s).size < k + q) = true := decide_eq_true (by omega)
      generalize str s = S at *
      clear HE3 HE4 HE5 HOK HUP HFR hue hsz hs he hb1 hq
      go_enter Tryz.func104, Tryz.ntmps104
      go_wp2_with fail
      refine (HV1.out).mono ?_
      rintro e2 w1 ⟨rfl, hbl⟩
      go_wp2_with fail
      refine (HBW.out _).mono ?_
      rintro e3 w2 ⟨rfl, hb2⟩
      go_wp2_with fail
      go_ret2
      rw [HRE.out]
      exact TextsPostF.none _ (below_then hbl hb2)
    have g6 : decide (((str s).size : Int) < (k : Int) + (q : Int)) = false := decide_eq_false (by omega)
    have g6' : decide ((str s).size < k + q) = false := decide_eq_false (by omega)
    have hkx : k + q ≤ (str s).size := by omega
    have hkxI : (k : Int) + (q : Int) ≤ ((str s).size : Int) := by omega
    by_cases hu0 : eu = 0
    · subst hu0
      have HTX := Lib.hid (fun a c a2 c2 W h1 h2 => dtextsf_any a c b a2 c2 u W (hue.2 rfl).2 h1 h2)
      unfold TextsPostF at HTX
      by_cases hb0 : eb = 0
      · subst hb0
        have HRE := Lib.hid (HOK.out u b h5 rfl rfl)
        generalize str s = S at *
        clear HE3 HE4 HE5 HOK hue hsz hs he hb1 h5 hq
        go_enter Tryz.func104, Tryz.ntmps104
        go_wp2_with fail
        refine (HV1.out).mono ?_
        rintro e2 w1 ⟨rfl, hbl⟩
        go_wp2_with fail
        refine (HBW.out _).mono ?_
        rintro e3 w2 ⟨rfl, hb2⟩
        go_wp2_with fail
        refine (HUP.out _).mono ?_
        rintro e4 w4 ⟨au, cu, rfl, hnu, hb4⟩
        have r4 := below_then (below_then hbl hb2) hb4
        go_wp2_with fail
        refine (HFR.out _).mono ?_
        rintro e5 w5 ⟨ab, cb, rfl, htx, hb5⟩
        have r5 := below_then r4 hb5
        go_wp2_with fail
        refine (HTX.out _ _ _ _ _ htx (hnu.next hb5)).mono ?_
        rintro e6 w6 ⟨at', ct, rfl, htt, hb6⟩
        go_wp2_with fail
        go_ret2
        rw [HRE.out]
        exact ⟨at', ct, rfl, ⟨htt.1, htt.2.low r5.size⟩, below_then r5 hb6⟩
      · have HRE := Lib.hid (HE5.out eb u b h5 rfl rfl hb0)
        have gb : ((eb : Int) != 0) = true := by rw [bne_iff_ne]; omega
        generalize str s = S at *
        clear HE3 HE4 HE5 HOK hue hsz hs he hb1 h5 hq
        go_enter Tryz.func104, Tryz.ntmps104
        go_wp2_with fail
        refine (HV1.out).mono ?_
        rintro e2 w1 ⟨rfl, hbl⟩
        go_wp2_with fail
        refine (HBW.out _).mono ?_
        rintro e3 w2 ⟨rfl, hb2⟩
        go_wp2_with fail
        refine (HUP.out _).mono ?_
        rintro e4 w4 ⟨au, cu, rfl, hnu, hb4⟩
        have r4 := below_then (below_then hbl hb2) hb4
        go_wp2_with fail
        refine (HFR.out _).mono ?_
        rintro e5 w5 ⟨ab, cb, rfl, htx, hb5⟩
        go_wp2_with fail
        go_ret2
        rw [HRE.out]
        exact TextsPostF.none _ (below_then r4 hb5)
    · have HRE := Lib.hid (HE4.out eu u h5 rfl hu0)
      have gu : ((eu : Int) != 0) = true := by rw [bne_iff_ne]; omega
      generalize str s = S at *
      clear HE3 HE4 HE5 HOK hue hsz hs he hb1 h5 hq
      go_enter Tryz.func104, Tryz.ntmps104
      go_wp2_with fail
      refine (HV1.out).mono ?_
      rintro e2 w1 ⟨rfl, hbl⟩
      go_wp2_with fail
      refine (HBW.out _).mono ?_
      rintro e3 w2 ⟨rfl, hb2⟩
      go_wp2_with fail
      refine (HUP.out _).mono ?_
      rintro e4 w4 ⟨au, cu, rfl, hnu, hb4⟩
      go_wp2_with fail
      go_ret2
      rw [HRE.out]
      exact TextsPostF.none _ (below_then (below_then hbl hb2) hb4)
  · have HRE := Lib.hid (bt_e1 (m := m) he h0)
    have g1 : ((e : Int) != 0) = true := by rw [bne_iff_ne]; omega
    generalize str s = S at *
    clear hb1 he h0 hs hsz
    go_enter Tryz.func104, Tryz.ntmps104
    go_wp2_with fail
    refine (HV1.out).mono ?_
    rintro e2 w1 ⟨rfl, hbl⟩
    go_wp2_with fail
    go_ret2
    rw [HRE.out]
    exact TextsPostF.none _ hbl

theorem TextsPostR.strong {r : List (List UInt8) × Nat} {w w' : World} {e : Ending} (h : TextsPostR r w e w') : TextsPostF r w e w' := by
  obtain ⟨a, c, he, hr, hb⟩ := h
  exact ⟨a, c, he, hr.tf, hb⟩
set_option maxHeartbeats 2000000 in
set_option maxRecDepth 100000 in
theorem toldTextsf_any (way : Nat) (t : List UInt8) (m : Nat) (w : World) (hs : t.length ≤ maxLen) (hm : m ≤ 64) :
    Calls Tryz.prog 57 #[.string (str t), .int .i64 (m : Int), .int .i64 (way : Int)] w (TextsPostF (ttR way m t) w) := by
  have hP := (toldPlain_any t m w hs hm).mono fun _ _ h => h.strong
  have hB := toldBookf_any t m w hs hm
  have hF := freadf_any t m w hs
  by_cases h1 : way = 5
  · subst h1
    have HR := Lib.hid (show ttR 5 m t = plR m t from rfl)
    unfold TextsPostF at hP ⊢
    have HF := Lib.hid hP
    generalize str t = S at *
    clear hP hB hF hs
    go_enter Tryz.func57, Tryz.ntmps57
    go_wp2_with fail
    refine (HF.out).mono ?_
    rintro e1 w1 ⟨a, c, rfl, hn, hb1⟩
    go_wp2_with fail
    go_ret2
    rw [HR.out]; exact ⟨a, c, rfl, hn, hb1⟩
  by_cases h2 : way = 6
  · subst h2
    have HR := Lib.hid (show ttR 6 m t = btR m t from rfl)
    unfold TextsPostF at hB ⊢
    have HF := Lib.hid hB
    generalize str t = S at *
    clear hP hB hF hs
    go_enter Tryz.func57, Tryz.ntmps57
    go_wp2_with fail
    refine (HF.out).mono ?_
    rintro e1 w1 ⟨a, c, rfl, hn, hb1⟩
    go_wp2_with fail
    go_ret2
    rw [HR.out]; exact ⟨a, c, rfl, hn, hb1⟩
  by_cases h3 : way = 7
  · subst h3
    have HR := Lib.hid (show ttR 7 m t = freadR t m from rfl)
    unfold TextsPostF at hF ⊢
    have HF := Lib.hid hF
    generalize str t = S at *
    clear hP hB hF hs
    go_enter Tryz.func57, Tryz.ntmps57
    go_wp2_with fail
    refine (HF.out).mono ?_
    rintro e1 w1 ⟨a, c, rfl, hn, hb1⟩
    go_wp2_with fail
    go_ret2
    rw [HR.out]; exact ⟨a, c, rfl, hn, hb1⟩
  have HR := Lib.hid (show ttR way m t = ([], 7) by unfold ttR; rw [if_neg h1, if_neg h2, if_neg h3])
  have g1 : ((way : Int) == 5) = false := by rw [beq_eq_false_iff_ne]; omega
  have g2 : ((way : Int) == 6) = false := by rw [beq_eq_false_iff_ne]; omega
  have g3 : ((way : Int) == 7) = false := by rw [beq_eq_false_iff_ne]; omega
  generalize str t = S at *
  generalize (way : Int) = W at *
  clear h1 h2 h3 hs hP hB hF
  go_enter Tryz.func57, Tryz.ntmps57
  go_wp2_with fail
  go_ret2
  rw [HR.out]; exact TextsPostF.none 7 (Below.refl _ _)

set_option maxHeartbeats 2000000 in
set_option maxRecDepth 100000 in
theorem readTextsf_any (s : List UInt8) (many : Int) (w : World) (hs : s.length ≤ maxLen) :
    Calls Tryz.prog 23 #[.string (str s), .int .i64 many] w (TextsPostF (tlR s many) w) := by
  have hO := opened_any s many w hs
  have hR := tlR_open s many
  have hm : (openR s many).2.2 = 0 → ∃ m : Nat, many = m ∧ m ≤ 64 := fun e => by
    by_cases h0 : many < 0
    · rw [show openR s many = (0, [], 3) from if_pos h0] at e; exact absurd e (by simp)
    by_cases h1 : 64 < many
    · rw [show openR s many = (0, [], 2) by unfold openR; rw [if_neg h0, if_pos h1]] at e; exact absurd e (by simp)
    exact ⟨many.toNat, by omega, by omega⟩
  have hl : (openR s many).2.1.length ≤ maxLen := by
    unfold openR
    split
    · simp [maxLen]
    split
    · simp [maxLen]
    cases s with
    | nil => simp [maxLen]
    | cons c t => rw [List.length_cons] at hs; show t.length ≤ _; omega
  obtain ⟨way, t, e, he⟩ : ∃ way t e, openR s many = (way, t, e) := ⟨_, _, _, rfl⟩
  rw [he] at hO hR hm hl
  simp only at hR hm hl
  unfold OpenPost at hO
  simp only at hO
  have HO := Lib.hid hO
  clear hO he hs
  by_cases h0 : e = 0
  · subst h0
    obtain ⟨m, rfl, hm64⟩ := hm rfl
    rw [if_neg (by simp), Int.toNat_natCast] at hR
    have HT := Lib.hid (fun W => toldTextsf_any way t m W hl hm64)
    rw [← hR] at HT
    unfold TextsPostF at HT ⊢
    generalize str t = T at *
    generalize str s = S at *
    clear hR hm hl hm64
    go_enter Tryz.func23, Tryz.ntmps23
    go_wp2_with fail
    refine (HO.out).mono ?_
    rintro e1 w1 ⟨rfl, hb1⟩
    go_wp2_with fail
    refine (HT.out _).mono ?_
    rintro e1 w2 ⟨a, c, rfl, hn, hb2⟩
    go_wp2_with fail
    go_ret2
    exact ⟨a, c, rfl, ⟨hn.1, hn.2.low hb1.size⟩, below_then hb1 hb2⟩
  · rw [if_pos h0] at hR
    have HR := Lib.hid hR
    have g1 : ((e : Int) != 0) = true := by rw [bne_iff_ne]; omega
    generalize str t = T at *
    generalize str s = S at *
    clear hR hm hl h0
    go_enter Tryz.func23, Tryz.ntmps23
    go_wp2_with fail
    refine (HO.out).mono ?_
    rintro e1 w1 ⟨rfl, hb1⟩
    go_wp2_with fail
    go_ret2
    rw [HR.out]; exact TextsPostF.none e hb1
end Go.Proofs.YtmiboibadccceaaGreat
