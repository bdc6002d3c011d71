/- The walks of hypostyleref.SetOf (whole) and PruneOf. -/
import Derived.Test.YtecfknolpnjokaaOR7
import Derived.Test.YtecfknolpnjokaaOW9
import Derived.Test.YtecfknolpnjokaaQ3
namespace Go.Proofs.Ytecfknolpnjokaa
open Go.RowKit
set_option linter.unusedVariables false

theorem alone_txt {ks : List Int} {c : O.Cd} (h : O.alone ks c = 0) (hp : O.parts c.op = 0) : c.c.txt.length ≤ 16 := by
  have hl := O.alone_leaf h hp
  unfold O.alone at h
  rw [if_neg (by omega), if_neg (by omega), if_neg (by omega)] at h
  by_cases a3 : ks.getD c.col.toNat 0 ≠ 1 ∧ ks.getD c.col.toNat 0 ≠ 2
  · rw [if_pos a3] at h; cases h
  rw [if_neg a3] at h
  by_cases a4 : c.op = 4
  · rw [if_pos a4] at h
    by_cases a5 : c.c ≠ C.null
    · rw [if_pos a5] at h; cases h
    · rw [Classical.not_not.1 a5]; simp [C.null]
  rw [if_neg a4] at h
  by_cases a5 : C.cellE (ks.getD c.col.toNat 0) c.c ≠ 0
  · rw [if_pos a5] at h; exact absurd h a5
  · exact (C.cell_ok (show C.cellE (ks.getD c.col.toNat 0) c.c = 0 by omega)).2.2.1
theorem knownE_ok : ∀ (ks : List Int) (ss : List S.St), ss.length = ks.length → O.knownE ks ss = 0 → ∀ j, j < ss.length → S.Ok (ks.getD j 0) (ss.getD j S.zero)
  | [], ss, hl, _, j, hj => by rw [hl] at hj; simp at hj
  | k :: ks, [], hl, _, j, hj => by simp at hj
  | k :: ks, s :: ss, hl, h, j, hj => by
    rw [O.knownE] at h
    by_cases q : S.ck k s ≠ 0
    · rw [if_pos q] at h; exact absurd h q
    rw [if_neg q] at h
    cases j with
    | zero => exact S.ck_ok (show S.ck k s = 0 by omega)
    | succ j => exact knownE_ok ks ss (by simpa using hl) h j (by simpa using hj)
theorem knownE_step (ks : List Int) (ss : List S.St) (i : Nat) (hi : i < ss.length) (hl : ss.length = ks.length) : O.knownE (ks.drop i) (ss.drop i) = if S.ck (ks.getD i 0) (ss.getD i S.zero) ≠ 0 then S.ck (ks.getD i 0) (ss.getD i S.zero) else O.knownE (ks.drop (i + 1)) (ss.drop (i + 1)) := by
  rw [List.drop_eq_getElem_cons hi, List.drop_eq_getElem_cons (show i < ks.length by omega), O.knownE]
  simp only [List.getD, List.getElem?_eq_getElem hi, List.getElem?_eq_getElem (show i < ks.length by omega), Option.getD_some]

theorem setOf_any (ks : List Int) (a : Option Addr) (scap : Nat) (ss : List S.St) (af : Option Addr) (fcap : Nat) (fs : List Bl.F) (hm : ss.length ≤ maxLen) (hx : ∀ x ∈ ss, sOk x) (hfx : ∀ x ∈ fs, Bl.fOk x) (hlen : ss.length = ks.length) (hlf : fs.length = ss.length)
    (hok : ∀ j, j < ss.length → S.Ok (ks.getD j 0) (ss.getD j S.zero)) : ∀ (t : O.T), O.ok ks t → (∀ x ∈ O.flat t, dOk x) →
    ∀ (b off cp : Nat) (w : World), (O.flat t).length ≤ cp → (O.flat t).length ≤ maxLen → b < w.heap.size → (∀ i, i < (O.flat t).length → at5 w b (off + i * 5) ((O.flat t).getD i O.nullC)) → Sts w w.heap.size a ss → Fls w w.heap.size af fs →
    Calls Try.prog 44 #[.slice (some ⟨b, off, none⟩) (O.flat t).length cp, .slice a ss.length scap, .slice af fs.length fcap] w (CErrPost (O.ev (O.askS ss fs) O.joS t) w)
  | .leaf c, h, hd, b, off, cp, w, hcp, hn, hlt, hc, hu, hfu => by
    have hl := O.alone_leaf h.2 h.1
    have htx := alone_txt h.2 h.1
    have := hc 0 (by simp [O.flat])
    rw [show (O.flat (.leaf c)).getD 0 O.nullC = c from rfl] at this
    have h2 := set_leaf b off 1 cp c a scap ss af fcap fs w hlt (by omega) (by simp [maxLen]) this (hd c (by simp [O.flat])).2.2 (by unfold maxLen; omega) ⟨hl.1, hl.2.1⟩ ⟨hl.2.2.1, by omega⟩ hlf hm hx hu hfx hfu
    have hj := hok c.col.toNat (by omega)
    rw [← O.leaf_is (fs.getD c.col.toNat Bl.none_) hj hl.1 hl.2.1] at h2
    exact h2
  | .one c t, h, hd, b, off, cp, w, hcp, hn, hlt, hc, hu, hfu => by
    have hfl : (O.flat (.one c t)).length = (O.flat t).length + 1 := by simp [O.flat]
    have hop : c.op = 7 := by rcases O.parts_cases c.op with q | q | q <;> have := h.1 <;> omega
    have hlast := hc (O.flat t).length (by omega)
    rw [show (O.flat (.one c t)).getD (O.flat t).length O.nullC = c by simp [O.flat, List.getD]] at hlast
    have h8 := O.evS_lt (O.askS ss fs) (fun c => O.mayBe_lt c _ _) t
    have := set_one b off (O.flat (.one c t)).length cp c (.slice a ss.length scap) (.slice af fs.length fcap) (O.ev (O.askS ss fs) O.joS t) w (by omega) hn hcp (by rw [hfl, Nat.add_sub_cancel]; exact hlast) hop h8 (fun W hb => by
      rw [hfl, Nat.add_sub_cancel]
      refine setOf_any ks a scap ss af fcap fs hm hx hfx hlen hlf hok t h.2.2 (fun x hx => hd x (by simp [O.flat, hx])) b off cp W (by omega) (by omega) (by have := hb.size; omega) (fun i hi => ?_) (hu.next at8_firm hb) (hfu.next at4_firm hb)
      have h2 := hc i (by omega)
      rw [show (O.flat (.one c t)).getD i O.nullC = (O.flat t).getD i O.nullC by simp only [O.flat, List.getD]; rw [List.getElem?_append_left hi]] at h2
      exact at5_firm w W b _ _ (fun j => hb.cell (p := ⟨b, j, none⟩) hlt) h2)
    rw [show O.ev (O.askS ss fs) O.joS (.one c t) = O.nt (O.ev (O.askS ss fs) O.joS t) by rw [O.ev, hop, O.joS_7 h8]]
    exact this
  | .two c t u, h, hd, b, off, cp, w, hcp, hn, hlt, hc, hu, hfu => by
    have hfl : (O.flat (.two c t u)).length = (O.flat t).length + (O.flat u).length + 1 := by simp [O.flat]; omega
    have hop : c.op = 5 ∨ c.op = 6 := by rcases O.parts_cases c.op with q | q | q <;> have := h.1 <;> omega
    have hlast := hc ((O.flat t).length + (O.flat u).length) (by omega)
    rw [show (O.flat (.two c t u)).getD ((O.flat t).length + (O.flat u).length) O.nullC = c by
      simp only [O.flat, List.getD]; rw [List.getElem?_append_right (by simp)]; simp] at hlast
    have h8 := O.evS_lt (O.askS ss fs) (fun c => O.mayBe_lt c _ _) t
    have h9 := O.evS_lt (O.askS ss fs) (fun c => O.mayBe_lt c _ _) u
    have HB := (fun W (hb : Below w.heap.size w W) => show Calls Try.prog 55 #[.slice (some ⟨b, off, none⟩) (O.flat (.two c t u)).length cp, .int .i64 (((O.flat (.two c t u)).length - 1 : Nat) : Int)] W (CErrPost (O.flat t).length W) by
        rw [show (O.flat (.two c t u)).length - 1 = (O.flat t).length + (O.flat u).length by omega]
        exact begin_any ks b off (O.flat (.two c t u)).length cp u h.2.2.2 (O.flat t) [c] W (by simp; omega) hn (by have := hb.size; omega) (fun i hi => at5_firm w W b _ _ (fun j => hb.cell (p := ⟨b, j, none⟩) hlt) (hc i hi)))
    have HX := (fun W (hb : Below w.heap.size w W) => show Calls Try.prog 44 #[.slice (some ⟨b, off, none⟩) (O.flat t).length cp, .slice a ss.length scap, .slice af fs.length fcap] W (CErrPost (O.ev (O.askS ss fs) O.joS t) W) by
        refine setOf_any ks a scap ss af fcap fs hm hx hfx hlen hlf hok t h.2.2.1 (fun x hx => hd x (by simp [O.flat, hx])) b off cp W (by omega) (by omega) (by have := hb.size; omega) (fun i hi => ?_) (hu.next at8_firm hb) (hfu.next at4_firm hb)
        have h2 := hc i (by omega)
        rw [show (O.flat (.two c t u)).getD i O.nullC = (O.flat t).getD i O.nullC by simp only [O.flat, List.getD]; rw [List.append_assoc, List.getElem?_append_left hi]] at h2
        exact at5_firm w W b _ _ (fun j => hb.cell (p := ⟨b, j, none⟩) hlt) h2)
    have HY := (fun W (hb : Below w.heap.size w W) => show Calls Try.prog 44 #[.slice (some ⟨b, off + (O.flat t).length * 5, none⟩) ((O.flat (.two c t u)).length - 1 - (O.flat t).length) (cp - (O.flat t).length), .slice a ss.length scap, .slice af fs.length fcap] W (CErrPost (O.ev (O.askS ss fs) O.joS u) W) by
        rw [show (O.flat (.two c t u)).length - 1 - (O.flat t).length = (O.flat u).length by omega]
        refine setOf_any ks a scap ss af fcap fs hm hx hfx hlen hlf hok u h.2.2.2 (fun x hx => hd x (by simp [O.flat, hx])) b (off + (O.flat t).length * 5) (cp - (O.flat t).length) W (by omega) (by omega) (by have := hb.size; omega) (fun i hi => ?_) (hu.next at8_firm hb) (hfu.next at4_firm hb)
        have h2 := hc ((O.flat t).length + i) (by omega)
        rw [show (O.flat (.two c t u)).getD ((O.flat t).length + i) O.nullC = (O.flat u).getD i O.nullC by
          simp only [O.flat, List.getD]; rw [List.append_assoc, List.getElem?_append_right (by omega), Nat.add_sub_cancel_left, List.getElem?_append_left hi]] at h2
        rw [show off + (O.flat t).length * 5 + i * 5 = off + ((O.flat t).length + i) * 5 by rw [Nat.add_mul]; omega]
        exact at5_firm w W b _ _ (fun j => hb.cell (p := ⟨b, j, none⟩) hlt) h2)
    have hl2 : at5 w b (off + ((O.flat (.two c t u)).length - 1) * 5) c := by rw [hfl, Nat.add_sub_cancel]; exact hlast
    rcases hop with hop | hop
    · rw [show O.ev (O.askS ss fs) O.joS (.two c t u) = O.rj 5 (O.ev (O.askS ss fs) O.joS t) (O.ev (O.askS ss fs) O.joS u) 9 by rw [O.ev, hop, O.joS_5 h8 h9]]
      exact set_two5 b off (O.flat (.two c t u)).length cp (O.flat t).length c _ _ _ _ w (by omega) hn hcp (by omega) hl2 hop h8 h9 HB HX HY
    · rw [show O.ev (O.askS ss fs) O.joS (.two c t u) = O.rj 6 (O.ev (O.askS ss fs) O.joS t) (O.ev (O.askS ss fs) O.joS u) 9 by rw [O.ev, hop, O.joS_6 h8 h9]]
      exact set_two6 b off (O.flat (.two c t u)).length cp (O.flat t).length c _ _ _ _ w (by omega) hn hcp (by omega) hl2 hop h8 h9 HB HX HY

set_option maxHeartbeats 4000000 in
set_option maxRecDepth 100000 in
theorem pruneOf_any (ap : Option Addr) (cp : Nat) (p : List O.Cd) (ka : Option Addr) (kcap : Nat) (ks : List Int) (a : Option Addr) (cap : Nat) (ss : List S.St) (af : Option Addr) (capf : Nat) (fs : List Bl.F) (w : World)
    (hpm : p.length ≤ maxLen) (hpq : p.length ≤ cp) (hpx : ∀ x ∈ p, dOk x) (hpu : Cds w w.heap.size ap p) (hkm : ks.length ≤ maxLen) (hk64 : ∀ k ∈ ks, -9223372036854775808 ≤ k ∧ k ≤ 9223372036854775807) (hku : Ints w w.heap.size ka ks) (hm : ss.length ≤ maxLen) (hx : ∀ x ∈ ss, sOk x) (hu : Sts w w.heap.size a ss)
    (hfm : fs.length ≤ maxLen) (hfx : ∀ x ∈ fs, Bl.fOk x) (hfu : Fls w w.heap.size af fs) :
    Calls Try.prog 14 #[.slice ap p.length cp, .slice ka ks.length kcap, .slice a ss.length cap, .slice af fs.length capf] w (IEPost (O.pruneR p ks ss fs) w) := by
  have HC := Lib.hid (ccheck_any ap cp p ka kcap ks w hpm hpx hpu hk64 hkm hku)
  have hcl := O.check_lt p ks
  have hR : O.pruneR p ks ss fs = if O.check p ks ≠ 0 then (0, O.check p ks) else if ss.length ≠ ks.length ∨ fs.length ≠ ks.length then (0, 1) else if O.knownE ks ss ≠ 0 then (0, O.knownE ks ss) else ((O.run (O.askS ss fs) O.joS [] p).getD 0 0, 0) := rfl
  by_cases hc : O.check p ks ≠ 0
  · rw [if_pos hc] at hR
    rw [hR]
    generalize O.check p ks = er at *
    have g1 : ((er : Int) != 0) = true := by rw [bne_iff_ne]; omega
    clear hR hpx hpu hku hu hx hfx hfu
    go_enter Try.func14, Try.ntmps14
    go_wp2_with fail
    refine HC.out.mono ?_
    rintro e w1 ⟨rfl, hb2⟩
    go_wp2_with fail
    go_ret2
    exact ⟨rfl, hb2⟩
  have hc0 : O.check p ks = 0 := by omega
  rw [hc0] at HC
  obtain ⟨h16, t, hok, hft⟩ := O.tree hc0
  by_cases hlen : ss.length ≠ ks.length ∨ fs.length ≠ ks.length
  · rw [if_neg hc, if_pos hlen] at hR
    rw [hR]
    by_cases hl1 : ss.length ≠ ks.length
    · have g1 : ((ss.length : Int) != (ks.length : Int)) = true := by rw [bne_iff_ne]; omega
      clear hR hpx hpu hku hu hx hft hfx hfu hlen
      go_enter Try.func14, Try.ntmps14
      go_wp2_with fail
      refine HC.out.mono ?_
      rintro e w1 ⟨rfl, hb2⟩
      go_wp2_with fail
      go_ret2
      exact ⟨rfl, hb2⟩
    · have g0 : ((ss.length : Int) != (ks.length : Int)) = false := by rw [bne_eq_false_iff_eq]; omega
      have g1 : ((fs.length : Int) != (ks.length : Int)) = true := by rw [bne_iff_ne]; omega
      clear hR hpx hpu hku hu hx hft hfx hfu hlen hl1
      go_enter Try.func14, Try.ntmps14
      go_wp2_with fail
      refine HC.out.mono ?_
      rintro e w1 ⟨rfl, hb2⟩
      go_wp2_with fail
      go_ret2
      exact ⟨rfl, hb2⟩
  have hlen1 : ss.length = ks.length := by omega
  have hlen2 : fs.length = ks.length := by omega
  have g2 : ((ss.length : Int) != (ks.length : Int)) = false := by rw [hlen1]; simp
  have g3 : ((fs.length : Int) != (ks.length : Int)) = false := by rw [hlen2]; simp
  have hR2 : O.knownE ks ss ≠ 0 → O.pruneR p ks ss fs = (0, O.knownE ks ss) := fun h => by rw [hR, if_neg hc, if_neg hlen, if_pos h]
  have hR3 : O.knownE ks ss = 0 → O.pruneR p ks ss fs = (O.ev (O.askS ss fs) O.joS t, 0) := fun h => O.pruneR_tree hok hft h16 hlen1 hlen2 h
  have hpn : p ≠ [] := by intro e; rw [← hft] at e; have := O.flat_pos t; rw [e] at this; simp at this
  obtain ⟨pb, poff, rfl, hplt, hpc⟩ := hpu hpn
  have HCO := Lib.hid (fun (h0 : O.knownE ks ss = 0) W (hb : Below w.heap.size w W) => show Calls Try.prog 44 #[.slice (some ⟨pb, poff, none⟩) p.length cp, .slice a ss.length cap, .slice af fs.length capf] W (CErrPost (O.ev (O.askS ss fs) O.joS t) W) by
    have h := setOf_any ks a cap ss af capf fs hm hx hfx hlen1 (by omega) (knownE_ok ks ss hlen1 h0) t hok (by rw [hft]; exact hpx) pb poff cp W (by rw [hft]; exact hpq) (by rw [hft]; exact hpm) (by have := hb.size; omega) (by rw [hft]; exact fun i hi => at5_firm w W pb _ _ (fun j => hb.cell (p := ⟨pb, j, none⟩) hplt) (hpc i hi)) (hu.next at8_firm hb) (hfu.next at4_firm hb)
    rwa [hft] at h)
  generalize O.ev (O.askS ss fs) O.joS t = val at *
  have HSTEP := Lib.hid (fun i hi => knownE_step ks ss i hi hlen1)
  have HR0 := Lib.hid (show O.knownE ks ss = O.knownE (ks.drop 0) (ss.drop 0) from rfl)
  generalize O.pruneR p ks ss fs = AR at *
  generalize O.knownE ks ss = R at *
  have HR2 := Lib.hid hR2
  have HR3 := Lib.hid hR3
  have HFA := Lib.hid (fun W (hb : Below w.heap.size w W) (i : Nat) (hi : i < ss.length) => show ∃ rb roff kb koff, a = some ⟨rb, roff, none⟩ ∧ ka = some ⟨kb, koff, none⟩ ∧ rb < w.heap.size ∧ kb < w.heap.size ∧ at1 W kb (koff + i) (ks.getD i 0) ∧ at8 W rb (roff + i * 8) (ss.getD i S.zero) by
    obtain ⟨rb, roff, e1, hrlt, hrc⟩ := hu (by intro e; rw [e] at hi; simp at hi)
    obtain ⟨kb, koff, e2, hklt, hkc⟩ := hku (by intro e; rw [hlen1, e] at hi; simp at hi)
    have h0 := hkc i (by omega)
    rw [Nat.mul_one] at h0
    exact ⟨rb, roff, kb, koff, e1, e2, hrlt, hklt, at1_firm w W kb _ _ (fun j => hb.cell (p := ⟨kb, j, none⟩) hklt) h0, at8_firm w W rb _ _ (fun j => hb.cell (p := ⟨rb, j, none⟩) hrlt) (hrc i hi)⟩)
  have HCK := Lib.hid (fun (i : Nat) (hi : i < ss.length) W => show Calls Try.prog 43 #[.int .i64 (ks.getD i 0), sag (ss.getD i S.zero)] W (CErrPost (S.ck (ks.getD i 0) (ss.getD i S.zero)) W) from
    kcheck_any (ks.getD i 0) (ss.getD i S.zero) W (hk64 _ (by simp only [List.getD, List.getElem?_eq_getElem (show i < ks.length by omega), Option.getD_some]; exact List.getElem_mem _)) (hx _ (by simp only [List.getD, List.getElem?_eq_getElem hi, Option.getD_some]; exact List.getElem_mem hi)))
  unfold maxLen at hm
  have HLEN := Lib.hid hlen1
  clear hR hR2 hR3 hpx hku hx hft hpc hu hk64 hlen hlen1 hlen2 hfx hfu hok
  go_enter Try.func14, Try.ntmps14
  go_wp2_with fail
  refine HC.out.mono ?_
  rintro e w1 ⟨rfl, hb1⟩
  go_wp2_with fail
  go_loopw [10, 11] (fun u i wr => ∃ j : Nat, j ≤ ss.length ∧ i = .int .i64 j ∧ Below w.heap.size w wr ∧ Hid (R = O.knownE (ks.drop j) (ss.drop j))) (fun _ i _ => ss.length - (intOf i).toNat)
  case atStart => exact ⟨0, by omega, rfl, hb1, HR0⟩
  case round =>
    obtain ⟨j, hj, rfl, hb, HJ⟩ := hrel
    by_cases hlt : j < ss.length
    · have hjI : (j : Int) < (ss.length : Int) := by omega
      have hjK : (j : Int) < (ks.length : Int) := by have := HLEN.out; omega
      obtain ⟨rb, roff, kb, koff, rfl, rfl, hrlt, hklt, k0, r0, r1, r2, r3, r4, r5, r6, r7⟩ := HFA.out wr hb j hlt
      have hst := HSTEP.out j hlt
      have HJ2 := Lib.hid (HJ.out.trans hst)
      have hE := ck_lt (ks.getD j 0) (ss.getD j S.zero)
      have hcc := HCK.out j hlt
      have hs := hb.size
      unfold at1 at k0
      unfold sag at hcc
      generalize ks.getD j 0 = K at *
      generalize ss.getD j S.zero = x at *
      have HCC := Lib.hid (fun W => show Calls Try.prog 43 #[.int .i64 K, .agg #[.int .i64 x.rows, .int .i64 x.nulls, .int .i64 x.least.kind, .int .u64 (x.least.num : Int), .string (str x.least.txt), .int .i64 x.most.kind, .int .u64 (x.most.num : Int), .string (str x.most.txt)]] W (fun e w' => e = .returned (.int .i64 (S.ck K x : Nat)) ∧ Below W.heap.size W w') from hcc W)
      generalize S.ck K x = er at *
      have kf := fun p : WB wr => p.cell (b := kb) (by omega) k0
      have f0 := fun p : WB wr => p.cell (b := rb) (by omega) r0
      have f1 := fun p : WB wr => p.cell (b := rb) (by omega) r1
      have f2 := fun p : WB wr => p.cell (b := rb) (by omega) r2
      have f3 := fun p : WB wr => p.cell (b := rb) (by omega) r3
      have f4 := fun p : WB wr => p.cell (b := rb) (by omega) r4
      have f5 := fun p : WB wr => p.cell (b := rb) (by omega) r5
      have f6 := fun p : WB wr => p.cell (b := rb) (by omega) r6
      have f7 := fun p : WB wr => p.cell (b := rb) (by omega) r7
      clear hst HJ k0 r0 r1 r2 r3 r4 r5 r6 r7 hcc
      by_cases he : er = 0
      · subst he
        have HN1 := Lib.hid (show R = O.knownE (ks.drop (j + 1)) (ss.drop (j + 1)) by rw [HJ2.out, if_neg (by simp)])
        go_wp2_with fail
        refine wp_region_wb (by kernel_rfl) (by kernel_rfl) ?_
        repeat (quiet_step ((go_at_call 43; refine calls_wb (v := .int .i64 ((0 : Nat) : Int)) ?_; with_reducible exact HCC.out _)))
        refine wpQuiet_nil ?_
        rintro _ ⟨p, rfl⟩
        have hpb := p.below
        clear kf f0 f1 f2 f3 f4 f5 f6 f7
        go_wp2_with fail
        exact ⟨⟨j + 1, by omega, by go_num, below_then hb hpb, HN1⟩, by simp [intOf]; omega⟩
      · have HRE := Lib.hid (show AR = (0, er) by
          have hR : R = er := by rw [HJ2.out, if_pos he]
          rw [HR2.out (by rw [hR]; exact he), hR])
        have g1 : ((er : Int) != 0) = true := by rw [bne_iff_ne]; omega
        go_wp2_with fail
        refine wp_region_wb (by kernel_rfl) (by kernel_rfl) ?_
        repeat (quiet_step ((go_at_call 43; refine calls_wb (v := .int .i64 (er : Int)) ?_; with_reducible exact HCC.out _)))
        refine wpQuiet_nil ?_
        rintro _ ⟨p, rfl⟩
        have hpb := p.below
        clear kf f0 f1 f2 f3 f4 f5 f6 f7
        go_wp2_with fail
        go_ret2
        exact ⟨by rw [HRE.out]; rfl, below_then hb hpb⟩
    · obtain rfl : j = ss.length := by omega
      have hR : R = 0 := by rw [HJ.out, List.drop_length, HLEN.out, List.drop_length]; rfl
      have HRE := Lib.hid (HR3.out hR)
      have HCW := Lib.hid (HCO.out hR wr hb)
      clear hR
      go_wp2_with fail
      refine HCW.out.mono ?_
      rintro e w2 ⟨rfl, hb2⟩
      go_wp2_with fail
      go_ret2
      exact ⟨by rw [HRE.out]; rfl, below_then hb hb2⟩
end Go.Proofs.Ytecfknolpnjokaa
