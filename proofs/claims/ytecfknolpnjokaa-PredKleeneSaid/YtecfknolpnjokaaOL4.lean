/- The law PredKleene. -/
import Derived.Test.YtecfknolpnjokaaOX1
import Derived.Test.YtecfknolpnjokaaOX2
namespace Go.Proofs.Ytecfknolpnjokaa
open Go.RowKit
set_option linter.unusedVariables false

theorem cop_ok (op : Int) (h1 : 5 ≤ op) (h2 : op ≤ 7) : dOk (O.cop op) :=
  ⟨⟨by show -9223372036854775808 ≤ op; omega, by show op ≤ 9223372036854775807; omega⟩, ⟨by show (-9223372036854775808 : Int) ≤ 0; omega, by show (0 : Int) ≤ 9223372036854775807; omega⟩, cOk_null⟩
theorem form_ok {p q : List O.Cd} (hp : ∀ x ∈ p, dOk x) (hq : ∀ x ∈ q, dOk x) (i : Nat) : ∀ x ∈ O.form p q i, dOk x := by
  have h5 := cop_ok 5 (by omega) (by omega)
  have h6 := cop_ok 6 (by omega) (by omega)
  have h7 := cop_ok 7 (by omega) (by omega)
  intro x hx
  unfold O.form at hx
  repeat' split at hx
  all_goals (try simp only [List.mem_append, List.mem_cons, List.not_mem_nil, or_false] at hx)
  all_goals grind

set_option maxHeartbeats 8000000 in
set_option maxRecDepth 100000 in
theorem predKleene_walk (w : World) (ap : Option Addr) (cp : Nat) (p : List O.Cd) (hpm : p.length ≤ maxLen) (hpq : p.length ≤ cp ∧ cp ≤ maxLen ∧ (ap = none → cp = 0)) (hpx : ∀ x ∈ p, dOk x) (hpu : Cds w w.heap.size ap p)
    (aq : Option Addr) (cq : Nat) (q : List O.Cd) (hqm : q.length ≤ maxLen) (hqq : q.length ≤ cq ∧ cq ≤ maxLen ∧ (aq = none → cq = 0)) (hqx : ∀ x ∈ q, dOk x) (hqu : Cds w w.heap.size aq q)
    (ka : Option Addr) (kcap : Nat) (ks : List Int) (hkm : ks.length ≤ maxLen) (hkq : ks.length ≤ kcap ∧ kcap ≤ maxLen ∧ (ka = none → kcap = 0)) (hk64 : ∀ x ∈ ks, -9223372036854775808 ≤ x ∧ x ≤ 9223372036854775807) (hku : Ints w w.heap.size ka ks)
    (a : Option Addr) (cap : Nat) (row : List C.Cl) (hm : row.length ≤ maxLen) (hq : row.length ≤ cap ∧ cap ≤ maxLen ∧ (a = none → cap = 0)) (hx : ∀ x ∈ row, cOk x) (hu : Cls w w.heap.size a row)
    (sa : Option Addr) (sc : Nat) (ss : List S.St) (hsm : ss.length ≤ maxLen) (hsq : ss.length ≤ sc ∧ sc ≤ maxLen ∧ (sa = none → sc = 0)) (hsx : ∀ x ∈ ss, sOk x) (hsu : Sts w w.heap.size sa ss)
    (fa : Option Addr) (fc : Nat) (fs : List Bl.F) (hfm : fs.length ≤ maxLen) (hfq : fs.length ≤ fc ∧ fc ≤ maxLen ∧ (fa = none → fc = 0)) (hfx : ∀ x ∈ fs, Bl.fOk x) (hfu : Fls w w.heap.size fa fs) :
    Calls Try.prog 7 #[.slice ap p.length cp, .slice aq q.length cq, .slice ka ks.length kcap, .slice a row.length cap, .slice sa ss.length sc, .slice fa fs.length fc] w (BoolPost true w) := by
  have HDO := Lib.hid (fun i => form_ok hpx hqx i)
  have HASK := Lib.hid (fun W (hb : Below w.heap.size w W) A c (n : Nat) i (hn : (O.form p q i).length = n) (hl : n ≤ 16) (hc : Cds W W.heap.size A (O.form p q i)) =>
    show Calls Try.prog 8 #[.slice A n c, .slice ka ks.length kcap, .slice a row.length cap] W (IEPost (O.askR (O.form p q i) ks row) W) by
    have h := ask_any A c (O.form p q i) ka kcap ks a cap row W (by rw [hn]; unfold maxLen; omega) (HDO.out i) hc hkm (hku.next at1_firm hb) hm hx (hu.next hb)
    rwa [hn] at h)
  have HPRU := Lib.hid (fun W (hb : Below w.heap.size w W) A c (n : Nat) i (hn : (O.form p q i).length = n) (hl : n ≤ 16) (hc : Cds W W.heap.size A (O.form p q i)) =>
    show Calls Try.prog 13 #[.slice A n c, .slice ka ks.length kcap, .slice sa ss.length sc, .slice fa fs.length fc] W (IEPost (O.pruneR (O.form p q i) ks ss fs) W) by
    have h := prune_any A c (O.form p q i) ka kcap ks sa sc ss fa fc fs W (by rw [hn]; unfold maxLen; omega) (HDO.out i) hc hkm (hku.next at1_firm hb) hsm hsx (hsu.next at8_firm hb) hfm hfx (hfu.next at4_firm hb)
    rwa [hn] at h)
  have HC1 := Lib.hid (fun W (hb : Below w.heap.size w W) => pcheck_any ap cp p ka kcap ks W hpm hpx (hpu.next at5_firm hb) hkm (hku.next at1_firm hb))
  have HC2 := Lib.hid (fun W (hb : Below w.heap.size w W) => pcheck_any aq cq q ka kcap ks W hqm hqx (hqu.next at5_firm hb) hkm (hku.next at1_firm hb))
  have HPU := Lib.hid (fun W (hb : Below w.heap.size w W) => hpu.next at5_firm hb)
  have HQU := Lib.hid (fun W (hb : Below w.heap.size w W) => hqu.next at5_firm hb)
  have HNP := Lib.hid hpq.2.2
  have HNQ := Lib.hid hqq.2.2
  clear hpx hpu hqx hqu hku hk64 hpm hqm hpq hqq hkq hq hx hu hsx hsu hfx hfu
  go_enter Try.func7, Try.ntmps7
  go_wp2_with fail
  refine (predBegun_any _).mono ?_
  rintro e w1 ⟨rfl, hb1⟩
  go_wp2_with fail
  have hc1 := HC1.out _ hb1
  by_cases hcp : O.check p ks ≠ 0
  · generalize O.check p ks = er at *
    have g1 : ((er : Int) != 0) = true := by rw [bne_iff_ne]; omega
    have HC1B := Lib.hid hc1
    refine HC1B.out.mono ?_
    rintro e w2 ⟨rfl, hb2⟩
    have hb2 := below_then hb1 hb2
    clear hc1
    go_wp2_with fail
    go_ret
    exact ⟨rfl, hb2⟩
  have hcp : O.check p ks = 0 := by omega
  rw [hcp] at hc1
  have HC1B := Lib.hid hc1
  clear hc1
  refine HC1B.out.mono ?_
  rintro e w2 ⟨rfl, hb2⟩
  have hb2 := below_then hb1 hb2
  have hc2 := HC2.out _ hb2
  go_wp2_with fail
  by_cases hcq : O.check q ks ≠ 0
  · generalize O.check q ks = er at *
    have g1 : ((er : Int) != 0) = true := by rw [bne_iff_ne]; omega
    refine (HC2.out _ hb2).mono ?_
    rintro e w3 ⟨rfl, hb3⟩
    have hb3 := below_then hb2 hb3
    clear hc2
    go_wp2_with fail
    go_ret
    exact ⟨rfl, hb3⟩
  have hcq : O.check q ks = 0 := by omega
  rw [hcq] at hc2
  have HC2B := Lib.hid hc2
  clear hc2
  have p16 := (O.check_zero hcp).1
  have q16 := (O.check_zero hcq).1
  refine HC2B.out.mono ?_
  rintro e w3 ⟨rfl, hb3⟩
  have hb3 := below_then hb2 hb3
  by_cases h13 : 13 < p.length + q.length
  · have h13I : (13 : Int) < (p.length : Int) + (q.length : Int) := by omega
    go_wp2_with fail
    go_ret
    exact ⟨rfl, hb3⟩
  have h13I : ¬ (13 : Int) < (p.length : Int) + (q.length : Int) := by omega
  have HMORG := Lib.hid (fun row s f => O.kleene hcp hcq (by omega) row s f)
  have R0 := Lib.hid (CdRow.empty w3)
  have hx0 : Below w3.heap.size w3 (w3.alloc (.cells #[] 51)) := (Below.refl _ _).alloc (Nat.le_refl _) _
  have hwx0 := below_then hb3 hx0
  have hz0 : w3.heap.size ≤ (w3.alloc (.cells #[] 51)).heap.size := hx0.size
  have hl0 : (([] : List O.Cd).length + p.length) * 48 ≤ 140737488355328 := by simp; omega
  go_wp2_with (at_builtin; refine wpList_append_cds rfl (.tmp 45) (.tmp 46) rfl w3.heap.size _ [] rfl R0.out ap p.length cp p rfl rfl HNP.out (HPU.out _ hwx0) (by simp; omega) (by simp) ?_)
  intro v4 w4 hr4 hb4 _
  have R4 := Lib.hid (show CdRow w3.heap.size p v4 w4 from hr4)
  have hb34 := hx0.trans hb4
  have hwb4 := below_then hb3 hb34
  have hz4 : w3.heap.size ≤ w4.heap.size := hb34.size
  clear hr4 hb4 hx0 hwx0 hz0 hl0 R0
  go_wp2_with (at_builtin; refine wpList_append_cds rfl (.tmp 47) (.tmp 48) rfl w3.heap.size _ p rfl R4.out aq q.length cq q rfl rfl HNQ.out (HQU.out _ hwb4) (by omega) hz4 ?_)
  intro v5 w5 hr5 hb5 _
  have R5 := Lib.hid (show CdRow w3.heap.size (p ++ q) v5 w5 from hr5)
  have hb35 := hb34.trans hb5
  have hwb5 := below_then hb3 hb35
  clear hr5 hb5 R4 hb34 hz4 hwb4
  -- GEN
  have R := R5
  have hc := hb35
  have hwB := hb3
  clear R5 hb35 hwb5 hb3
  obtain ⟨a13, c13, rfl, hn13, hcd⟩ := R.out.cds
  have hfm : (p ++ q) = (p ++ q) := by simp
  rw [hfm] at hcd
  obtain ⟨n13, hl13⟩ : ∃ n, n = ((p ++ q)).length := ⟨_, rfl⟩
  rw [← hl13]
  have HL13 := Lib.hid (show ((p ++ q)).length = n13 by rw [hl13, ← hfm])
  have hle13 : n13 ≤ 16 := by rw [hl13]; simp; omega
  have HB := Lib.hid hcd
  have hwB : Below w.heap.size w w5 := below_then hwB hc
  clear R hcd hfm hl13 hc
  have R0 := Lib.hid (CdRow.empty w5)
  have hx0 : Below w5.heap.size w5 (w5.alloc (.cells #[] 51)) := (Below.refl _ _).alloc (Nat.le_refl _) _
  have hcx := Lib.hid (HPU.out _ (below_then hwB hx0))
  have HX0 := Lib.hid hx0
  clear hx0
  go_wp2_with (at_builtin; refine wpList_append_cds rfl (.tmp 50) (.tmp 51) rfl w5.heap.size _ [] rfl R0.out ap p.length cp p rfl rfl HNP.out hcx.out (by first | omega | (simp; omega)) (by simp) ?_)
  intro v6 w6 hr hb _
  have R := Lib.hid (show CdRow w5.heap.size p v6 w6 from by simpa using hr)
  have hc : Below w5.heap.size w5 w6 := HX0.out.trans hb
  clear hr hb hcx R0 HX0
  go_wp2_with fail
  refine (cop_any 7 _).mono ?_
  rintro e w7 ⟨rfl, hs⟩
  have R := Lib.hid (R.out.below_ hs)
  have hc : Below w5.heap.size w5 w7 := below_then hc hs
  clear hs
  have hx0 : Below w7.heap.size w7 (w7.alloc (.cells #[.int .i64 7, .int .i64 0, .int .i64 0, .int .u64 0, .string ⟨#[]⟩] 51)) := (Below.refl _ _).alloc (Nat.le_refl _) _
  have RX := Lib.hid (R.out.below_ hx0)
  have hcx := Lib.hid (cds_one w7 7)
  have hzb : w5.heap.size ≤ (w7.alloc (.cells #[.int .i64 7, .int .i64 0, .int .i64 0, .int .u64 0, .string ⟨#[]⟩] 51)).heap.size := (below_then hc hx0).size
  have HCB := Lib.hid (below_then hc hx0)
  clear hx0
  go_wp2_with (at_builtin; refine wpList_append_cds rfl (.tmp 52) (.tmp 54) rfl w5.heap.size _ (p) rfl RX.out (some ⟨w7.heap.size, 0, none⟩) 1 1 [O.cop 7] rfl rfl (fun h => by cases h) hcx.out (by first | omega | (simp; omega)) hzb ?_)
  intro v8 w8 hr hb _
  have R := Lib.hid (show CdRow w5.heap.size (p ++ [O.cop 7]) v8 w8 from by simpa using hr)
  have hc : Below w5.heap.size w5 w8 := HCB.out.trans hb
  clear hr RX hcx hzb HCB hb
  have hcx := Lib.hid (HQU.out _ (below_then hwB hc))
  have hzb : w5.heap.size ≤ w8.heap.size := hc.size
  go_wp2_with (at_builtin; refine wpList_append_cds rfl (.tmp 55) (.tmp 56) rfl w5.heap.size _ ((p ++ [O.cop 7])) rfl R.out aq q.length cq q rfl rfl HNQ.out hcx.out (by first | omega | (simp; omega)) hzb ?_)
  intro v9 w9 hr hb _
  have R := Lib.hid (show CdRow w5.heap.size ((p ++ [O.cop 7]) ++ q) v9 w9 from by simpa using hr)
  have hc : Below w5.heap.size w5 w9 := hc.trans hb
  clear hr hb hcx hzb
  go_wp2_with fail
  refine (cop_any 7 _).mono ?_
  rintro e w10 ⟨rfl, hs⟩
  have R := Lib.hid (R.out.below_ hs)
  have hc : Below w5.heap.size w5 w10 := below_then hc hs
  clear hs
  have hx0 : Below w10.heap.size w10 (w10.alloc (.cells #[.int .i64 7, .int .i64 0, .int .i64 0, .int .u64 0, .string ⟨#[]⟩] 51)) := (Below.refl _ _).alloc (Nat.le_refl _) _
  have RX := Lib.hid (R.out.below_ hx0)
  have hcx := Lib.hid (cds_one w10 7)
  have hzb : w5.heap.size ≤ (w10.alloc (.cells #[.int .i64 7, .int .i64 0, .int .i64 0, .int .u64 0, .string ⟨#[]⟩] 51)).heap.size := (below_then hc hx0).size
  have HCB := Lib.hid (below_then hc hx0)
  clear hx0
  go_wp2_with (at_builtin; refine wpList_append_cds rfl (.tmp 57) (.tmp 59) rfl w5.heap.size _ (((p ++ [O.cop 7]) ++ q)) rfl RX.out (some ⟨w10.heap.size, 0, none⟩) 1 1 [O.cop 7] rfl rfl (fun h => by cases h) hcx.out (by first | omega | (simp; omega)) hzb ?_)
  intro v11 w11 hr hb _
  have R := Lib.hid (show CdRow w5.heap.size (((p ++ [O.cop 7]) ++ q) ++ [O.cop 7]) v11 w11 from by simpa using hr)
  have hc : Below w5.heap.size w5 w11 := HCB.out.trans hb
  clear hr RX hcx hzb HCB hb
  obtain ⟨a14, c14, rfl, hn14, hcd⟩ := R.out.cds
  have hfm : (((p ++ [O.cop 7]) ++ q) ++ [O.cop 7]) = (p ++ [O.cop 7] ++ q ++ [O.cop 7]) := by simp
  rw [hfm] at hcd
  obtain ⟨n14, hl14⟩ : ∃ n, n = ((((p ++ [O.cop 7]) ++ q) ++ [O.cop 7])).length := ⟨_, rfl⟩
  rw [← hl14]
  have HL14 := Lib.hid (show ((p ++ [O.cop 7] ++ q ++ [O.cop 7])).length = n14 by rw [hl14, ← hfm])
  have hle14 : n14 ≤ 16 := by rw [hl14]; simp; omega
  have HB := Lib.hid (HB.out.next at5_firm hc)
  have HN := Lib.hid hcd
  have hwB : Below w.heap.size w w11 := below_then hwB hc
  clear R hcd hfm hl14 hc
  have R0 := Lib.hid (CdRow.empty w11)
  have hx0 : Below w11.heap.size w11 (w11.alloc (.cells #[] 51)) := (Below.refl _ _).alloc (Nat.le_refl _) _
  have hcx := Lib.hid (HB.out.next at5_firm hx0)
  have HX0 := Lib.hid hx0
  clear hx0
  go_wp2_with (at_builtin; refine wpList_append_cds rfl (.tmp 61) (.tmp 62) rfl w11.heap.size _ [] rfl R0.out a13 n13 c13 (p ++ q) HL13.out rfl hn13 hcx.out (by first | omega | (simp; omega)) (by simp) ?_)
  intro v12 w12 hr hb _
  have R := Lib.hid (show CdRow w11.heap.size (p ++ q) v12 w12 from by simpa using hr)
  have hc : Below w11.heap.size w11 w12 := HX0.out.trans hb
  clear hr hb hcx R0 HX0
  go_wp2_with fail
  refine (cop_any 5 _).mono ?_
  rintro e w13 ⟨rfl, hs⟩
  have R := Lib.hid (R.out.below_ hs)
  have hc : Below w11.heap.size w11 w13 := below_then hc hs
  clear hs
  go_wp2_with fail
  refine (cop_any 7 _).mono ?_
  rintro e w14 ⟨rfl, hs⟩
  have R := Lib.hid (R.out.below_ hs)
  have hc : Below w11.heap.size w11 w14 := below_then hc hs
  clear hs
  have hx0 : Below w14.heap.size w14 (w14.alloc (.cells #[.int .i64 5, .int .i64 0, .int .i64 0, .int .u64 0, .string ⟨#[]⟩, .int .i64 7, .int .i64 0, .int .i64 0, .int .u64 0, .string ⟨#[]⟩] 51)) := (Below.refl _ _).alloc (Nat.le_refl _) _
  have RX := Lib.hid (R.out.below_ hx0)
  have hcx := Lib.hid (cds_two w14 5 7)
  have hzb : w11.heap.size ≤ (w14.alloc (.cells #[.int .i64 5, .int .i64 0, .int .i64 0, .int .u64 0, .string ⟨#[]⟩, .int .i64 7, .int .i64 0, .int .i64 0, .int .u64 0, .string ⟨#[]⟩] 51)).heap.size := (below_then hc hx0).size
  have HCB := Lib.hid (below_then hc hx0)
  clear hx0
  go_wp2_with (at_builtin; refine wpList_append_cds rfl (.tmp 63) (.tmp 66) rfl w11.heap.size _ ((p ++ q)) rfl RX.out (some ⟨w14.heap.size, 0, none⟩) 2 2 [O.cop 5, O.cop 7] rfl rfl (fun h => by cases h) hcx.out (by first | omega | (simp; omega)) hzb ?_)
  intro v15 w15 hr hb _
  have R := Lib.hid (show CdRow w11.heap.size ((p ++ q) ++ [O.cop 5, O.cop 7]) v15 w15 from by simpa using hr)
  have hc : Below w11.heap.size w11 w15 := HCB.out.trans hb
  clear hr RX hcx hzb HCB hb
  obtain ⟨a0, c0, rfl, hn0, hcd⟩ := R.out.cds
  have hfm : ((p ++ q) ++ [O.cop 5, O.cop 7]) = O.form p q 0 := by simp [O.form]
  rw [hfm] at hcd
  obtain ⟨n0, hl0⟩ : ∃ n, n = (((p ++ q) ++ [O.cop 5, O.cop 7])).length := ⟨_, rfl⟩
  rw [← hl0]
  have HL0 := Lib.hid (show (O.form p q 0).length = n0 by rw [hl0, ← hfm])
  have hle0 : n0 ≤ 16 := by rw [hl0]; simp; omega
  have HB := Lib.hid (HB.out.next at5_firm hc)
  have HN := Lib.hid (HN.out.next at5_firm hc)
  have HF0 := Lib.hid hcd
  have hwB : Below w.heap.size w w15 := below_then hwB hc
  clear R hcd hfm hl0 hc
  have R0 := Lib.hid (CdRow.empty w15)
  have hx0 : Below w15.heap.size w15 (w15.alloc (.cells #[] 51)) := (Below.refl _ _).alloc (Nat.le_refl _) _
  have hcx := Lib.hid (HN.out.next at5_firm hx0)
  have HX0 := Lib.hid hx0
  clear hx0
  go_wp2_with (at_builtin; refine wpList_append_cds rfl (.tmp 68) (.tmp 69) rfl w15.heap.size _ [] rfl R0.out a14 n14 c14 (p ++ [O.cop 7] ++ q ++ [O.cop 7]) HL14.out rfl hn14 hcx.out (by first | omega | (simp; omega)) (by simp) ?_)
  intro v16 w16 hr hb _
  have R := Lib.hid (show CdRow w15.heap.size (p ++ [O.cop 7] ++ q ++ [O.cop 7]) v16 w16 from by simpa using hr)
  have hc : Below w15.heap.size w15 w16 := HX0.out.trans hb
  clear hr hb hcx R0 HX0
  go_wp2_with fail
  refine (cop_any 6 _).mono ?_
  rintro e w17 ⟨rfl, hs⟩
  have R := Lib.hid (R.out.below_ hs)
  have hc : Below w15.heap.size w15 w17 := below_then hc hs
  clear hs
  have hx0 : Below w17.heap.size w17 (w17.alloc (.cells #[.int .i64 6, .int .i64 0, .int .i64 0, .int .u64 0, .string ⟨#[]⟩] 51)) := (Below.refl _ _).alloc (Nat.le_refl _) _
  have RX := Lib.hid (R.out.below_ hx0)
  have hcx := Lib.hid (cds_one w17 6)
  have hzb : w15.heap.size ≤ (w17.alloc (.cells #[.int .i64 6, .int .i64 0, .int .i64 0, .int .u64 0, .string ⟨#[]⟩] 51)).heap.size := (below_then hc hx0).size
  have HCB := Lib.hid (below_then hc hx0)
  clear hx0
  go_wp2_with (at_builtin; refine wpList_append_cds rfl (.tmp 70) (.tmp 72) rfl w15.heap.size _ ((p ++ [O.cop 7] ++ q ++ [O.cop 7])) rfl RX.out (some ⟨w17.heap.size, 0, none⟩) 1 1 [O.cop 6] rfl rfl (fun h => by cases h) hcx.out (by first | omega | (simp; omega)) hzb ?_)
  intro v18 w18 hr hb _
  have R := Lib.hid (show CdRow w15.heap.size ((p ++ [O.cop 7] ++ q ++ [O.cop 7]) ++ [O.cop 6]) v18 w18 from by simpa using hr)
  have hc : Below w15.heap.size w15 w18 := HCB.out.trans hb
  clear hr RX hcx hzb HCB hb
  obtain ⟨a1, c1, rfl, hn1, hcd⟩ := R.out.cds
  have hfm : ((p ++ [O.cop 7] ++ q ++ [O.cop 7]) ++ [O.cop 6]) = O.form p q 1 := by simp [O.form]
  rw [hfm] at hcd
  obtain ⟨n1, hl1⟩ : ∃ n, n = (((p ++ [O.cop 7] ++ q ++ [O.cop 7]) ++ [O.cop 6])).length := ⟨_, rfl⟩
  rw [← hl1]
  have HL1 := Lib.hid (show (O.form p q 1).length = n1 by rw [hl1, ← hfm])
  have hle1 : n1 ≤ 16 := by rw [hl1]; simp; omega
  have HB := Lib.hid (HB.out.next at5_firm hc)
  have HN := Lib.hid (HN.out.next at5_firm hc)
  have HF0 := Lib.hid (HF0.out.next at5_firm hc)
  have HF1 := Lib.hid hcd
  have hwB : Below w.heap.size w w18 := below_then hwB hc
  clear R hcd hfm hl1 hc
  have R0 := Lib.hid (CdRow.empty w18)
  have hx0 : Below w18.heap.size w18 (w18.alloc (.cells #[] 51)) := (Below.refl _ _).alloc (Nat.le_refl _) _
  have hcx := Lib.hid (HB.out.next at5_firm hx0)
  have HX0 := Lib.hid hx0
  clear hx0
  go_wp2_with (at_builtin; refine wpList_append_cds rfl (.tmp 74) (.tmp 75) rfl w18.heap.size _ [] rfl R0.out a13 n13 c13 (p ++ q) HL13.out rfl hn13 hcx.out (by first | omega | (simp; omega)) (by simp) ?_)
  intro v19 w19 hr hb _
  have R := Lib.hid (show CdRow w18.heap.size (p ++ q) v19 w19 from by simpa using hr)
  have hc : Below w18.heap.size w18 w19 := HX0.out.trans hb
  clear hr hb hcx R0 HX0
  go_wp2_with fail
  refine (cop_any 6 _).mono ?_
  rintro e w20 ⟨rfl, hs⟩
  have R := Lib.hid (R.out.below_ hs)
  have hc : Below w18.heap.size w18 w20 := below_then hc hs
  clear hs
  go_wp2_with fail
  refine (cop_any 7 _).mono ?_
  rintro e w21 ⟨rfl, hs⟩
  have R := Lib.hid (R.out.below_ hs)
  have hc : Below w18.heap.size w18 w21 := below_then hc hs
  clear hs
  have hx0 : Below w21.heap.size w21 (w21.alloc (.cells #[.int .i64 6, .int .i64 0, .int .i64 0, .int .u64 0, .string ⟨#[]⟩, .int .i64 7, .int .i64 0, .int .i64 0, .int .u64 0, .string ⟨#[]⟩] 51)) := (Below.refl _ _).alloc (Nat.le_refl _) _
  have RX := Lib.hid (R.out.below_ hx0)
  have hcx := Lib.hid (cds_two w21 6 7)
  have hzb : w18.heap.size ≤ (w21.alloc (.cells #[.int .i64 6, .int .i64 0, .int .i64 0, .int .u64 0, .string ⟨#[]⟩, .int .i64 7, .int .i64 0, .int .i64 0, .int .u64 0, .string ⟨#[]⟩] 51)).heap.size := (below_then hc hx0).size
  have HCB := Lib.hid (below_then hc hx0)
  clear hx0
  go_wp2_with (at_builtin; refine wpList_append_cds rfl (.tmp 76) (.tmp 79) rfl w18.heap.size _ ((p ++ q)) rfl RX.out (some ⟨w21.heap.size, 0, none⟩) 2 2 [O.cop 6, O.cop 7] rfl rfl (fun h => by cases h) hcx.out (by first | omega | (simp; omega)) hzb ?_)
  intro v22 w22 hr hb _
  have R := Lib.hid (show CdRow w18.heap.size ((p ++ q) ++ [O.cop 6, O.cop 7]) v22 w22 from by simpa using hr)
  have hc : Below w18.heap.size w18 w22 := HCB.out.trans hb
  clear hr RX hcx hzb HCB hb
  obtain ⟨a2, c2, rfl, hn2, hcd⟩ := R.out.cds
  have hfm : ((p ++ q) ++ [O.cop 6, O.cop 7]) = O.form p q 2 := by simp [O.form]
  rw [hfm] at hcd
  obtain ⟨n2, hl2⟩ : ∃ n, n = (((p ++ q) ++ [O.cop 6, O.cop 7])).length := ⟨_, rfl⟩
  rw [← hl2]
  have HL2 := Lib.hid (show (O.form p q 2).length = n2 by rw [hl2, ← hfm])
  have hle2 : n2 ≤ 16 := by rw [hl2]; simp; omega
  have HB := Lib.hid (HB.out.next at5_firm hc)
  have HN := Lib.hid (HN.out.next at5_firm hc)
  have HF0 := Lib.hid (HF0.out.next at5_firm hc)
  have HF1 := Lib.hid (HF1.out.next at5_firm hc)
  have HF2 := Lib.hid hcd
  have hwB : Below w.heap.size w w22 := below_then hwB hc
  clear R hcd hfm hl2 hc
  have R0 := Lib.hid (CdRow.empty w22)
  have hx0 : Below w22.heap.size w22 (w22.alloc (.cells #[] 51)) := (Below.refl _ _).alloc (Nat.le_refl _) _
  have hcx := Lib.hid (HN.out.next at5_firm hx0)
  have HX0 := Lib.hid hx0
  clear hx0
  go_wp2_with (at_builtin; refine wpList_append_cds rfl (.tmp 81) (.tmp 82) rfl w22.heap.size _ [] rfl R0.out a14 n14 c14 (p ++ [O.cop 7] ++ q ++ [O.cop 7]) HL14.out rfl hn14 hcx.out (by first | omega | (simp; omega)) (by simp) ?_)
  intro v23 w23 hr hb _
  have R := Lib.hid (show CdRow w22.heap.size (p ++ [O.cop 7] ++ q ++ [O.cop 7]) v23 w23 from by simpa using hr)
  have hc : Below w22.heap.size w22 w23 := HX0.out.trans hb
  clear hr hb hcx R0 HX0
  go_wp2_with fail
  refine (cop_any 5 _).mono ?_
  rintro e w24 ⟨rfl, hs⟩
  have R := Lib.hid (R.out.below_ hs)
  have hc : Below w22.heap.size w22 w24 := below_then hc hs
  clear hs
  have hx0 : Below w24.heap.size w24 (w24.alloc (.cells #[.int .i64 5, .int .i64 0, .int .i64 0, .int .u64 0, .string ⟨#[]⟩] 51)) := (Below.refl _ _).alloc (Nat.le_refl _) _
  have RX := Lib.hid (R.out.below_ hx0)
  have hcx := Lib.hid (cds_one w24 5)
  have hzb : w22.heap.size ≤ (w24.alloc (.cells #[.int .i64 5, .int .i64 0, .int .i64 0, .int .u64 0, .string ⟨#[]⟩] 51)).heap.size := (below_then hc hx0).size
  have HCB := Lib.hid (below_then hc hx0)
  clear hx0
  go_wp2_with (at_builtin; refine wpList_append_cds rfl (.tmp 83) (.tmp 85) rfl w22.heap.size _ ((p ++ [O.cop 7] ++ q ++ [O.cop 7])) rfl RX.out (some ⟨w24.heap.size, 0, none⟩) 1 1 [O.cop 5] rfl rfl (fun h => by cases h) hcx.out (by first | omega | (simp; omega)) hzb ?_)
  intro v25 w25 hr hb _
  have R := Lib.hid (show CdRow w22.heap.size ((p ++ [O.cop 7] ++ q ++ [O.cop 7]) ++ [O.cop 5]) v25 w25 from by simpa using hr)
  have hc : Below w22.heap.size w22 w25 := HCB.out.trans hb
  clear hr RX hcx hzb HCB hb
  obtain ⟨a3, c3, rfl, hn3, hcd⟩ := R.out.cds
  have hfm : ((p ++ [O.cop 7] ++ q ++ [O.cop 7]) ++ [O.cop 5]) = O.form p q 3 := by simp [O.form]
  rw [hfm] at hcd
  obtain ⟨n3, hl3⟩ : ∃ n, n = (((p ++ [O.cop 7] ++ q ++ [O.cop 7]) ++ [O.cop 5])).length := ⟨_, rfl⟩
  rw [← hl3]
  have HL3 := Lib.hid (show (O.form p q 3).length = n3 by rw [hl3, ← hfm])
  have hle3 : n3 ≤ 16 := by rw [hl3]; simp; omega
  have HB := Lib.hid (HB.out.next at5_firm hc)
  have HN := Lib.hid (HN.out.next at5_firm hc)
  have HF0 := Lib.hid (HF0.out.next at5_firm hc)
  have HF1 := Lib.hid (HF1.out.next at5_firm hc)
  have HF2 := Lib.hid (HF2.out.next at5_firm hc)
  have HF3 := Lib.hid hcd
  have hwB : Below w.heap.size w w25 := below_then hwB hc
  clear R hcd hfm hl3 hc
  have R0 := Lib.hid (CdRow.empty w25)
  have hx0 : Below w25.heap.size w25 (w25.alloc (.cells #[] 51)) := (Below.refl _ _).alloc (Nat.le_refl _) _
  have hcx := Lib.hid (HPU.out _ (below_then hwB hx0))
  have HX0 := Lib.hid hx0
  clear hx0
  go_wp2_with (at_builtin; refine wpList_append_cds rfl (.tmp 87) (.tmp 88) rfl w25.heap.size _ [] rfl R0.out ap p.length cp p rfl rfl HNP.out hcx.out (by first | omega | (simp; omega)) (by simp) ?_)
  intro v26 w26 hr hb _
  have R := Lib.hid (show CdRow w25.heap.size p v26 w26 from by simpa using hr)
  have hc : Below w25.heap.size w25 w26 := HX0.out.trans hb
  clear hr hb hcx R0 HX0
  go_wp2_with fail
  refine (cop_any 7 _).mono ?_
  rintro e w27 ⟨rfl, hs⟩
  have R := Lib.hid (R.out.below_ hs)
  have hc : Below w25.heap.size w25 w27 := below_then hc hs
  clear hs
  go_wp2_with fail
  refine (cop_any 7 _).mono ?_
  rintro e w28 ⟨rfl, hs⟩
  have R := Lib.hid (R.out.below_ hs)
  have hc : Below w25.heap.size w25 w28 := below_then hc hs
  clear hs
  have hx0 : Below w28.heap.size w28 (w28.alloc (.cells #[.int .i64 7, .int .i64 0, .int .i64 0, .int .u64 0, .string ⟨#[]⟩, .int .i64 7, .int .i64 0, .int .i64 0, .int .u64 0, .string ⟨#[]⟩] 51)) := (Below.refl _ _).alloc (Nat.le_refl _) _
  have RX := Lib.hid (R.out.below_ hx0)
  have hcx := Lib.hid (cds_two w28 7 7)
  have hzb : w25.heap.size ≤ (w28.alloc (.cells #[.int .i64 7, .int .i64 0, .int .i64 0, .int .u64 0, .string ⟨#[]⟩, .int .i64 7, .int .i64 0, .int .i64 0, .int .u64 0, .string ⟨#[]⟩] 51)).heap.size := (below_then hc hx0).size
  have HCB := Lib.hid (below_then hc hx0)
  clear hx0
  go_wp2_with (at_builtin; refine wpList_append_cds rfl (.tmp 89) (.tmp 92) rfl w25.heap.size _ (p) rfl RX.out (some ⟨w28.heap.size, 0, none⟩) 2 2 [O.cop 7, O.cop 7] rfl rfl (fun h => by cases h) hcx.out (by first | omega | (simp; omega)) hzb ?_)
  intro v29 w29 hr hb _
  have R := Lib.hid (show CdRow w25.heap.size (p ++ [O.cop 7, O.cop 7]) v29 w29 from by simpa using hr)
  have hc : Below w25.heap.size w25 w29 := HCB.out.trans hb
  clear hr RX hcx hzb HCB hb
  obtain ⟨a4, c4, rfl, hn4, hcd⟩ := R.out.cds
  have hfm : (p ++ [O.cop 7, O.cop 7]) = O.form p q 4 := by simp [O.form]
  rw [hfm] at hcd
  obtain ⟨n4, hl4⟩ : ∃ n, n = ((p ++ [O.cop 7, O.cop 7])).length := ⟨_, rfl⟩
  rw [← hl4]
  have HL4 := Lib.hid (show (O.form p q 4).length = n4 by rw [hl4, ← hfm])
  have hle4 : n4 ≤ 16 := by rw [hl4]; simp; omega
  have HB := Lib.hid (HB.out.next at5_firm hc)
  have HN := Lib.hid (HN.out.next at5_firm hc)
  have HF0 := Lib.hid (HF0.out.next at5_firm hc)
  have HF1 := Lib.hid (HF1.out.next at5_firm hc)
  have HF2 := Lib.hid (HF2.out.next at5_firm hc)
  have HF3 := Lib.hid (HF3.out.next at5_firm hc)
  have HF4 := Lib.hid hcd
  have hwB : Below w.heap.size w w29 := below_then hwB hc
  clear R hcd hfm hl4 hc
  -- NEG
  go_wp2_with fail
  obtain ⟨X, hX⟩ : ∃ X, X = (w29.alloc (.cells #[.slice a0 n0 c0, .slice a1 n1 c1, .slice a2 n2 c2, .slice a3 n3 c3, .slice a4 n4 c4, .slice ap p.length cp] 22)) := ⟨_, rfl⟩
  rw [← hX]
  have hbx : Below w29.heap.size w29 X := by rw [hX]; exact (Below.refl _ _).alloc (Nat.le_refl _) _
  have hwx := below_then hwB hbx
  have hgx : w29.heap.size < X.heap.size := by rw [hX]; simp
  have HCELL := Lib.hid (fun W (hb : Below X.heap.size X W) => show W.cell? ⟨w29.heap.size, 0, none⟩ = some (.slice a0 n0 c0) ∧ W.cell? ⟨w29.heap.size, 1, none⟩ = some (.slice a1 n1 c1) ∧ W.cell? ⟨w29.heap.size, 2, none⟩ = some (.slice a2 n2 c2) ∧ W.cell? ⟨w29.heap.size, 3, none⟩ = some (.slice a3 n3 c3) ∧ W.cell? ⟨w29.heap.size, 4, none⟩ = some (.slice a4 n4 c4) ∧ W.cell? ⟨w29.heap.size, 5, none⟩ = some (.slice ap p.length cp) by
    have h : ∀ i, W.cell? ⟨w29.heap.size, i, none⟩ = (#[.slice a0 n0 c0, .slice a1 n1 c1, .slice a2 n2 c2, .slice a3 n3 c3, .slice a4 n4 c4, .slice ap p.length cp] : Array Value)[i]? := fun i => by
      rw [hb.cell (p := ⟨w29.heap.size, i, none⟩) hgx, hX]; exact ocell_new _ _ _ _
    exact ⟨h 0, h 1, h 2, h 3, h 4, h 5⟩)
  have HA0 := Lib.hid (fun W (hb : Below X.heap.size X W) => HASK.out W (below_then hwx hb) a0 c0 n0 0 HL0.out hle0 (HF0.out.next at5_firm (below_then hbx hb)))
  have HP0 := Lib.hid (fun W (hb : Below X.heap.size X W) => HPRU.out W (below_then hwx hb) a0 c0 n0 0 HL0.out hle0 (HF0.out.next at5_firm (below_then hbx hb)))
  have HA1 := Lib.hid (fun W (hb : Below X.heap.size X W) => HASK.out W (below_then hwx hb) a1 c1 n1 1 HL1.out hle1 (HF1.out.next at5_firm (below_then hbx hb)))
  have HP1 := Lib.hid (fun W (hb : Below X.heap.size X W) => HPRU.out W (below_then hwx hb) a1 c1 n1 1 HL1.out hle1 (HF1.out.next at5_firm (below_then hbx hb)))
  have HA2 := Lib.hid (fun W (hb : Below X.heap.size X W) => HASK.out W (below_then hwx hb) a2 c2 n2 2 HL2.out hle2 (HF2.out.next at5_firm (below_then hbx hb)))
  have HP2 := Lib.hid (fun W (hb : Below X.heap.size X W) => HPRU.out W (below_then hwx hb) a2 c2 n2 2 HL2.out hle2 (HF2.out.next at5_firm (below_then hbx hb)))
  have HA3 := Lib.hid (fun W (hb : Below X.heap.size X W) => HASK.out W (below_then hwx hb) a3 c3 n3 3 HL3.out hle3 (HF3.out.next at5_firm (below_then hbx hb)))
  have HP3 := Lib.hid (fun W (hb : Below X.heap.size X W) => HPRU.out W (below_then hwx hb) a3 c3 n3 3 HL3.out hle3 (HF3.out.next at5_firm (below_then hbx hb)))
  have HA4 := Lib.hid (fun W (hb : Below X.heap.size X W) => HASK.out W (below_then hwx hb) a4 c4 n4 4 HL4.out hle4 (HF4.out.next at5_firm (below_then hbx hb)))
  have HP4 := Lib.hid (fun W (hb : Below X.heap.size X W) => HPRU.out W (below_then hwx hb) a4 c4 n4 4 HL4.out hle4 (HF4.out.next at5_firm (below_then hbx hb)))
  have e5 : O.form p q 5 = p := rfl
  have HA5 := Lib.hid (fun W (hb : Below X.heap.size X W) => HASK.out W (below_then hwx hb) ap cp p.length 5 rfl p16 (HPU.out _ (below_then hwx hb)))
  have HP5 := Lib.hid (fun W (hb : Below X.heap.size X W) => HPRU.out W (below_then hwx hb) ap cp p.length 5 rfl p16 (HPU.out _ (below_then hwx hb)))
  have hm0 : O.askR (O.form p q 0) ks row = O.askR (O.form p q 1) ks row ∧ O.pruneR (O.form p q 0) ks ss fs = O.pruneR (O.form p q 1) ks ss fs := HMORG.out row ss fs 0 (by omega)
  rw [← hm0.1] at HA1
  rw [← hm0.2] at HP1
  generalize O.askR (O.form p q 0) ks row = A0 at HA0 HA1
  generalize O.pruneR (O.form p q 0) ks ss fs = P0 at HP0 HP1
  obtain ⟨s0, e0x⟩ := A0
  obtain ⟨t0, g0x⟩ := P0
  have hm1 : O.askR (O.form p q 2) ks row = O.askR (O.form p q 3) ks row ∧ O.pruneR (O.form p q 2) ks ss fs = O.pruneR (O.form p q 3) ks ss fs := HMORG.out row ss fs 1 (by omega)
  rw [← hm1.1] at HA3
  rw [← hm1.2] at HP3
  generalize O.askR (O.form p q 2) ks row = A1 at HA2 HA3
  generalize O.pruneR (O.form p q 2) ks ss fs = P1 at HP2 HP3
  obtain ⟨s1, e1x⟩ := A1
  obtain ⟨t1, g1x⟩ := P1
  have hm2 : O.askR (O.form p q 4) ks row = O.askR (O.form p q 5) ks row ∧ O.pruneR (O.form p q 4) ks ss fs = O.pruneR (O.form p q 5) ks ss fs := HMORG.out row ss fs 2 (by omega)
  rw [← hm2.1] at HA5
  rw [← hm2.2] at HP5
  generalize O.askR (O.form p q 4) ks row = A2 at HA4 HA5
  generalize O.pruneR (O.form p q 4) ks ss fs = P2 at HP4 HP5
  obtain ⟨s2, e2x⟩ := A2
  obtain ⟨t2, g2x⟩ := P2
  clear hX hm0 hm1 hm2 HASK HPRU HMORG HPU HQU HF0 HF1 HF2 HF3 HF4 HB HN HL0 HL1 HL2 HL3 HL4 HL13 HL14
  have hxx := Below.refl X.heap.size X
  go_loopw [16] (fun v16 wk => (v16 = .int .i64 0 ∨ v16 = .int .i64 2 ∨ v16 = .int .i64 4 ∨ v16 = .int .i64 6) ∧ Below X.heap.size X wk) (fun v16 _ => 6 - (intOf v16).toNat)
  case atStart => exact ⟨Or.inl rfl, hxx⟩
  case round =>
    obtain ⟨hv, hbk⟩ := hrel
    rcases hv with rfl | rfl | rfl | rfl
    · obtain ⟨z0, z1, z2, z3, z4, z5⟩ := HCELL.out _ hbk
      go_wp2_with fail
      refine (HA0.out _ hbk).mono ?_
      rintro e y0 ⟨rfl, hy0⟩
      have hk0 := below_then hbk hy0
      obtain ⟨z0, z1, z2, z3, z4, z5⟩ := HCELL.out _ hk0
      go_wp2_with fail
      refine (HA1.out _ hk0).mono ?_
      rintro e y1 ⟨rfl, hy1⟩
      have hk1 := below_then hk0 hy1
      obtain ⟨z0, z1, z2, z3, z4, z5⟩ := HCELL.out _ hk1
      go_wp2_with fail
      refine (HP0.out _ hk1).mono ?_
      rintro e y2 ⟨rfl, hy2⟩
      have hk2 := below_then hk1 hy2
      obtain ⟨z0, z1, z2, z3, z4, z5⟩ := HCELL.out _ hk2
      go_wp2_with fail
      refine (HP1.out _ hk2).mono ?_
      rintro e y3 ⟨rfl, hy3⟩
      have hk3 := below_then hk2 hy3
      obtain ⟨z0, z1, z2, z3, z4, z5⟩ := HCELL.out _ hk3
      go_wp2_with fail
      exact ⟨⟨Or.inr (Or.inl rfl), hk3⟩, by simp [intOf]⟩
    · obtain ⟨z0, z1, z2, z3, z4, z5⟩ := HCELL.out _ hbk
      go_wp2_with fail
      refine (HA2.out _ hbk).mono ?_
      rintro e y0 ⟨rfl, hy0⟩
      have hk0 := below_then hbk hy0
      obtain ⟨z0, z1, z2, z3, z4, z5⟩ := HCELL.out _ hk0
      go_wp2_with fail
      refine (HA3.out _ hk0).mono ?_
      rintro e y1 ⟨rfl, hy1⟩
      have hk1 := below_then hk0 hy1
      obtain ⟨z0, z1, z2, z3, z4, z5⟩ := HCELL.out _ hk1
      go_wp2_with fail
      refine (HP2.out _ hk1).mono ?_
      rintro e y2 ⟨rfl, hy2⟩
      have hk2 := below_then hk1 hy2
      obtain ⟨z0, z1, z2, z3, z4, z5⟩ := HCELL.out _ hk2
      go_wp2_with fail
      refine (HP3.out _ hk2).mono ?_
      rintro e y3 ⟨rfl, hy3⟩
      have hk3 := below_then hk2 hy3
      obtain ⟨z0, z1, z2, z3, z4, z5⟩ := HCELL.out _ hk3
      go_wp2_with fail
      exact ⟨⟨Or.inr (Or.inr (Or.inl rfl)), hk3⟩, by simp [intOf]⟩
    · obtain ⟨z0, z1, z2, z3, z4, z5⟩ := HCELL.out _ hbk
      go_wp2_with fail
      refine (HA4.out _ hbk).mono ?_
      rintro e y0 ⟨rfl, hy0⟩
      have hk0 := below_then hbk hy0
      obtain ⟨z0, z1, z2, z3, z4, z5⟩ := HCELL.out _ hk0
      go_wp2_with fail
      refine (HA5.out _ hk0).mono ?_
      rintro e y1 ⟨rfl, hy1⟩
      have hk1 := below_then hk0 hy1
      obtain ⟨z0, z1, z2, z3, z4, z5⟩ := HCELL.out _ hk1
      go_wp2_with fail
      refine (HP4.out _ hk1).mono ?_
      rintro e y2 ⟨rfl, hy2⟩
      have hk2 := below_then hk1 hy2
      obtain ⟨z0, z1, z2, z3, z4, z5⟩ := HCELL.out _ hk2
      go_wp2_with fail
      refine (HP5.out _ hk2).mono ?_
      rintro e y3 ⟨rfl, hy3⟩
      have hk3 := below_then hk2 hy3
      obtain ⟨z0, z1, z2, z3, z4, z5⟩ := HCELL.out _ hk3
      go_wp2_with fail
      exact ⟨⟨Or.inr (Or.inr (Or.inr rfl)), hk3⟩, by simp [intOf]⟩
    · go_wp2_with fail
      go_ret
      exact ⟨rfl, below_then hwx hbk⟩
end Go.Proofs.Ytecfknolpnjokaa
