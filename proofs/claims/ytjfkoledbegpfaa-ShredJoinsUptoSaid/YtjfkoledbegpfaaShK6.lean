/- hypostyleref.shredField's walk out of shredInner's. -/
import Derived.Test.YtjfkoledbegpfaaShK5
namespace Go.Proofs.Ytjfkoledbegpfaa
open Go.RowKit
open Sh (Lv zipA)
set_option linter.unusedVariables false

def InnerC (k : Sh.F) : Prop := ∀ (r D P rp b off cap B : Nat) (ia : Option Addr) (icap : Nat) (ls : List Nat) (w : World), Fds w B (some ⟨b, off, none⟩) (Sh.flat (.cons r k .nil)) → B ≤ w.heap.size → 1 + Sh.size k ≤ cap → cap ≤ maxLen → D + Sh.size k ≤ 900 → P + Sh.size k ≤ 900 → rp ≤ 900 → Sh.ok (.cons r k .nil) →
  ls.length ≤ 64 → ls.length ≤ icap → icap ≤ maxLen → (∀ n ∈ ls, n < 18446744073709551616) → Nums w B ia ls →
  Calls Try.prog 29 #[.slice (some ⟨b, off, none⟩) (1 + Sh.size k) cap, .slice ia ls.length icap, .int .i64 (rp : Nat), .int .i64 (P : Nat), .int .i64 (D : Nat)] w (SPost w B (lv1 k) (Sh.sIn k D P rp ls))
def FieldC (k : Sh.F) : Prop := ∀ (r d p rp b off cap B : Nat) (ia : Option Addr) (icap : Nat) (ls : List Nat) (w : World), Fds w B (some ⟨b, off, none⟩) (Sh.flat (.cons r k .nil)) → B ≤ w.heap.size → 1 + Sh.size k ≤ cap → cap ≤ maxLen → d + Sh.size k + 1 ≤ 900 → p + Sh.size k + 1 ≤ 900 → rp ≤ 900 → Sh.ok (.cons r k .nil) →
  ls.length ≤ 64 → ls.length ≤ icap → icap ≤ maxLen → (∀ n ∈ ls, n < 18446744073709551616) → Nums w B ia ls →
  Calls Try.prog 44 #[.slice (some ⟨b, off, none⟩) (1 + Sh.size k) cap, .slice ia ls.length icap, .int .i64 (rp : Nat), .int .i64 (p : Nat), .int .i64 (d : Nat)] w (SPost w B (lv1 k) (Sh.sOne (Sh.sIn k (dn r d) (rn r p)) r (lv1 k) d (rn r p) rp ls))

set_option maxHeartbeats 4000000 in
set_option maxRecDepth 100000 in
theorem field_of (k : Sh.F) (HI : InnerC k) : FieldC k := by
  intro r d p rp b off cap B ia icap ls w hu hB hc hcm hd hp hrp hok hl64 hlc hlm hlt hnu
  obtain ⟨bb, oo, e0, hbl, hcell⟩ := hu (by simp [Sh.flat])
  obtain ⟨rfl, rfl⟩ : b = bb ∧ off = oo := by cases e0; exact ⟨rfl, rfl⟩
  obtain ⟨h0, -⟩ := hcell 0 (by simp [Sh.flat])
  rw [show (Sh.flat (.cons r k .nil)).getD 0 Sh.fd0 = ((r : Int), (Sh.len k : Int)) from rfl, Nat.zero_mul, Nat.add_zero] at h0
  simp only at h0
  have HR0 := Lib.hid (fun W (hb : Below w.heap.size w W) => show W.cell? ⟨b, off, none⟩ = some (.int .i64 (r : Int)) from (hb.cell (p := ⟨b, off, none⟩) (show b < w.heap.size by omega)).trans h0)
  have HCI := Lib.hid (fun (D P rp : Nat) ia icap (ls : List Nat) W (hb : Below w.heap.size w W) (hD : D + Sh.size k ≤ 900) (hP : P + Sh.size k ≤ 900) (hr : rp ≤ 900) (a1 : ls.length ≤ 64) (a2 : ls.length ≤ icap) (a3 : icap ≤ maxLen) (a4 : ∀ n ∈ ls, n < 18446744073709551616) (a5 : Nums W B ia ls) => HI r D P rp b off cap B ia icap ls W (hu.below (hb.mono hB)) (Nat.le_trans hB hb.size) hc hcm hD hP hr hok a1 a2 a3 a4 a5)
  have HLO := Lib.hid (leavesOf_any (some ⟨b, off, none⟩) cap (Sh.flat (.cons r k .nil)) w B (by rw [Sh.flat_length]; have e : Sh.size (.cons r k .nil) = 1 + Sh.size k + 0 := rfl; omega) hu)
  rw [lvs_one, show (Sh.flat (.cons r k .nil)).length = 1 + Sh.size k by rw [Sh.flat_length]; rfl] at HLO
  have HNU := Lib.hid (fun W (hb : Below w.heap.size w W) => hnu.below (hb.mono hB))
  have HLT := Lib.hid hlt
  have hlv : lv1 k ≤ 1 + Sh.size k := by
    have := Sh.leaves_le (.cons r k .nil)
    rw [leaves_cons] at this
    have e : Sh.size (.cons r k .nil) = 1 + Sh.size k + 0 := rfl
    have e2 : Sh.leaves .nil = 0 := rfl
    omega
  have hr2 : r ≤ 2 := hok.1
  obtain ⟨LF, hLF⟩ : ∃ LF, LF = 1 + Sh.size k := ⟨_, rfl⟩
  rw [← hLF] at hc hlv HCI HLO ⊢
  have hLF1 : 1 ≤ LF := by omega
  have hcm2 := hcm
  unfold maxLen at hcm2
  have hlm2 := hlm
  unfold maxLen at hlm2
  have HKD := Lib.hid (show d + Sh.size k + 1 ≤ 900 ∧ p + Sh.size k + 1 ≤ 900 from ⟨hd, hp⟩)
  have hd9 : d ≤ 900 := by omega
  have hp9 : p ≤ 900 := by omega
  have hL9 : lv1 k ≤ 1000 := by omega
  clear HI e0 hcell h0 hu hnu hlt hok hd hp hLF hlv
  by_cases hr0 : r = 0
  · subst hr0
    have hS : Sh.sOne (Sh.sIn k (dn 0 d) (rn 0 p)) 0 (lv1 k) d (rn 0 p) rp ls = Sh.sIn k d p rp ls := by unfold Sh.sOne; rw [if_pos rfl]; rfl
    rw [hS]
    have HC := Lib.hid (HCI.out d p rp ia icap ls w (Below.refl _ _) (by have := HKD.out; omega) (by have := HKD.out; omega) hrp hl64 hlc hlm HLT.out (HNU.out w (Below.refl _ _)))
    have c0 := HR0.out w (Below.refl _ _)
    generalize Sh.sIn k d p rp ls = R at *
    clear hS HCI HLO HNU HLT HR0
    go_enter Try.func44, Try.ntmps44
    go_wp2_with fail
    refine (HC.out).mono ?_
    rintro e w1 ⟨hb1, hm1⟩
    cases R with
    | none =>
      obtain rfl := hm1
      have HB1 := Lib.hid hb1
      clear hb1
      go_wp2_with fail
      exact bodyPost_ret (v := .tuple #[.slice none 0 0, .slice none 0 0, .bool false]) (by simp [results, Try.results44, go_sem]) rfl ⟨HB1.out, rfl⟩
    | some x =>
      obtain ⟨D, ls'⟩ := x
      obtain ⟨A, cp, a', c', rfl, hx⟩ := hm1
      have HX := Lib.hid hx
      have HB1 := Lib.hid hb1
      clear hb1 hx
      obtain ⟨n', hn'⟩ : ∃ n, n = ls'.length := ⟨_, rfl⟩
      rw [← hn']
      have HN' := Lib.hid hn'
      clear hn'
      go_wp2_with fail
      refine bodyPost_ret (v := .tuple #[.slice A (lv1 k) cp, .slice a' n' c', .bool true]) (by simp [results, Try.results44, go_sem]) rfl ⟨HB1.out, ?_⟩
      rw [HN'.out]
      exact ⟨A, cp, a', c', rfl, HX.out⟩
  · have c0 := HR0.out w (Below.refl _ _)
    have g0 : ((r : Int) == 0) = false := by rw [beq_eq_false_iff_ne]; omega
    cases ls with
    | nil =>
      have hS : Sh.sOne (Sh.sIn k (dn r d) (rn r p)) r (lv1 k) d (rn r p) rp [] = none := by unfold Sh.sOne; rw [if_neg hr0]
      rw [hS]
      clear hS HCI HLO HNU HLT HR0
      simp only [List.length_nil]
      go_enter Try.func44, Try.ntmps44
      go_wp2_with fail
      exact bodyPost_ret (v := .tuple #[.slice none 0 0, .slice none 0 0, .bool false]) (by simp [results, Try.results44, go_sem]) rfl ⟨Below.refl _ _, rfl⟩
    | cons m t =>
      obtain ⟨bi, oi, rfl, hbi, hci⟩ := (HNU.out w (Below.refl _ _)) (by simp)
      have ci := hci 0 (by simp)
      rw [Nat.add_zero, show (m :: t).getD 0 0 = m from rfl] at ci
      have hm64 : m < 18446744073709551616 := HLT.out m (List.mem_cons_self ..)
      obtain ⟨nt, hnt⟩ : ∃ n, n = t.length := ⟨_, rfl⟩
      have HNT := Lib.hid hnt
      simp only [List.length_cons] at hl64 hlc ⊢
      rw [← hnt] at hl64 hlc ⊢
      clear hnt hci
      by_cases hbad : (r = 1 ∧ 1 < m) ∨ 64 < m
      · have hS : Sh.sOne (Sh.sIn k (dn r d) (rn r p)) r (lv1 k) d (rn r p) rp (m :: t) = none := by unfold Sh.sOne; rw [if_neg hr0]; simp only; rw [if_pos hbad]
        rw [hS]
        clear hS HCI HLO HR0 HNU HLT
        have hcase : (r = 1 ∧ 1 < m) ∨ (r = 2 ∧ 64 < m) := by omega
        rcases hcase with ⟨rfl, h1⟩ | ⟨rfl, h1⟩
        · have hI : (1 : Int) < (m : Int) := by omega
          clear hbad
          go_enter Try.func44, Try.ntmps44
          go_wp2_with fail
          exact bodyPost_ret (v := .tuple #[.slice none 0 0, .slice none 0 0, .bool false]) (by simp [results, Try.results44, go_sem]) rfl ⟨Below.refl _ _, rfl⟩
        · have hI : (64 : Int) < (m : Int) := by omega
          clear hbad
          go_enter Try.func44, Try.ntmps44
          go_wp2_with fail
          exact bodyPost_ret (v := .tuple #[.slice none 0 0, .slice none 0 0, .bool false]) (by simp [results, Try.results44, go_sem]) rfl ⟨Below.refl _ _, rfl⟩
      · have hm9 : m ≤ 64 := by omega
        have hI64 : ¬ (64 : Int) < (m : Int) := by omega
        have hcut := Nums.cut1 (HNU.out w (Below.refl _ _)) (show (m :: t).length ≤ icap by rw [List.length_cons, ← HNT.out]; exact hlc)
        have HCUT := Lib.hid hcut
        have HLT2 := Lib.hid (show ∀ n ∈ t, n < 18446744073709551616 from fun n hn => HLT.out n (List.mem_cons_of_mem _ hn))
        have HEM := Lib.hid (empty_any w (lv1 k) hL9)
        have hI1 : (r = 1 → ¬ (1 : Int) < (m : Int)) := fun h => by omega
        have HS := Lib.hid (show Sh.sOne (Sh.sIn k (dn r d) (rn r p)) r (lv1 k) d (rn r p) rp (m :: t) = if m = 0 then some (List.replicate (lv1 k) [((rp : Int), (d : Int), 0)], t) else Sh.sJoin (Sh.sIn k (dn r d) (rn r p)) m rp (rn r p) (List.replicate (lv1 k) []) t by
          unfold Sh.sOne; rw [if_neg hr0]; simp only; rw [if_neg hbad])
        clear hcut hbad HNU HLT
        have hr12 : r = 1 ∨ r = 2 := by omega
        obtain ⟨L, hL⟩ : ∃ L, L = lv1 k := ⟨_, rfl⟩
        have HL := Lib.hid hL
        rw [← hL] at hL9 HLO HEM HS ⊢
        have hL1 : 1 ≤ L := by rw [hL]; exact lv1_pos k
        clear hL
        by_cases hi1 : icap = 1
        · subst hi1
          obtain rfl : nt = 0 := by omega
          rw [if_pos rfl] at HCUT
          obtain rfl : t = [] := List.eq_nil_of_length_eq_zero HNT.out.symm
          rcases hr12 with rfl | rfl
          · have hI1 := hI1 rfl
            have HS : Hid (Sh.sOne (Sh.sIn k (dn 1 d) (rn 1 p)) 1 L d (rn 1 p) rp (m :: []) = if m = 0 then some (List.replicate L [((rp : Int), (d : Int), 0)], []) else Sh.sJoin (Sh.sIn k (d + 1) p) m rp p (List.replicate L []) []) := HS
            obtain ⟨R, hR⟩ : ∃ R, R = Sh.sOne (Sh.sIn k (dn 1 d) (rn 1 p)) 1 L d (rn 1 p) rp (m :: []) := ⟨_, rfl⟩
            rw [← hR] at HS ⊢
            clear hR
            go_enter Try.func44, Try.ntmps44
            go_wp2_with fail
            refine (HLO.out).mono ?_
            rintro e w1 ⟨rfl, rfl⟩
            go_wp2_with fail
            refine (HEM.out).mono ?_
            rintro e w2 ⟨A, cp, rfl, hE, hbE⟩
            obtain ⟨g, rfl⟩ : ∃ g, A = some ⟨g, 0, none⟩ := by
              obtain ⟨-, vs, h2, -⟩ := hE
              rcases h2.2 with ⟨-, h0⟩ | ⟨g, cap, cur, e, -⟩
              · omega
              · injection e with e1; exact ⟨g, e1⟩
            have HE := Lib.hid hE
            have hgw : w.heap.size ≤ g := by
              obtain ⟨-, vs, h2, -⟩ := hE
              exact (h2.lt g rfl).1
            clear hE
            by_cases hm : m = 0
            · subst hm
              have HRR := Lib.hid (HS.out.trans (if_pos rfl))
              have HB2 := Lib.hid hbE
              clear HS hbE
              go_wp2_with fail
              go_loopw [15] (fun i wr => ∃ j : Nat, j ≤ L ∧ i = .int .i64 j ∧ Below w.heap.size w wr ∧ Hid (COut wr w.heap.size (.slice (some ⟨g, 0, none⟩) L cp) L (nzs L j ((rp : Int), (d : Int), 0)))) (fun i _ => L - (intOf i).toNat)
              case atStart => exact ⟨0, Nat.zero_le _, rfl, HB2.out, Lib.hid (by rw [nzs_zero]; exact HE.out)⟩
              case round =>
                obtain ⟨j, hj, rfl, hbw, HCO⟩ := hrel
                rename World => wr
                by_cases hlt : j < L
                · have hjI : (j : Int) < (L : Int) := by omega
                  have hco2 := HCO.out.next ((Below.refl wr.heap.size wr).alloc (Nat.le_refl _) (.cells #[.int .i64 (rp : Int), .int .i64 (d : Int), .int .u64 0] 43))
                  have hyr : (wr.alloc (.cells #[.int .i64 (rp : Int), .int .i64 (d : Int), .int .u64 0] 43)).ownsRow w.heap.size 43 3 (.slice (some ⟨wr.heap.size, 0, none⟩) 1 1) 1 (lvals [((rp : Int), (d : Int), 0)]) := lvrow_lit (l := [((rp : Int), (d : Int), 0)]) (heap_alloc_new _ _) hbw.size (show 1 ≤ maxLen by decide)
                  obtain ⟨k1, k2⟩ := hco2.set hlt hyr
                  rw [nzs_set hlt] at k1
                  have HK1 := Lib.hid k1
                  have HBN := Lib.hid ((hbw.alloc hbw.size (.cells #[.int .i64 (rp : Int), .int .i64 (d : Int), .int .u64 0] 43)).setCell (p := ⟨g, j, none⟩) hgw (.slice (some ⟨wr.heap.size, 0, none⟩) 1 1))
                  obtain ⟨-, vs, o2, -⟩ := hco2
                  have hvl : vs.length = L := by rw [o2.1, Nat.mul_one]
                  have y0 := o2.cellAt j (by omega)
                  rw [List.getElem?_eq_getElem (show j < vs.length by omega)] at y0
                  have y1 := o2.frozenAt j
                  generalize vs[j] = vj at y0
                  clear k1 k2 hyr o2 hvl hbw
                  go_wp2_with fail
                  exact ⟨⟨j + 1, by omega, by go_num, HBN.out, HK1⟩, by simp [intOf]; omega⟩
                · obtain rfl : j = L := by omega
                  have hjI : ¬ (j : Int) < (j : Int) := by omega
                  have HF := Lib.hid (show COut wr w.heap.size (.slice (some ⟨g, 0, none⟩) j cp) j (List.replicate j [((rp : Int), (d : Int), 0)]) by have := HCO.out; rwa [nzs_all] at this)
                  have HNN := Lib.hid (HCUT.out.below (hbw.mono hB))
                  have HBW := Lib.hid hbw
                  clear hbw
                  go_wp2_with fail
                  refine bodyPost_ret (v := .tuple #[.slice (some ⟨g, 0, none⟩) j cp, .slice (some ⟨bi, oi, none⟩) 0 0, .bool true]) (by simp [results, Try.results44, go_sem]) rfl ⟨HBW.out, ?_⟩
                  rw [HRR.out]
                  exact ⟨_, _, _, _, rfl, HF.out, HNN.out, Nat.le_refl _, by unfold maxLen; omega, HLT2.out⟩
            · have HRR := Lib.hid (HS.out.trans (if_neg hm))
              have HB2 := Lib.hid hbE
              have hmb : ((m : Int) == 0) = false := by rw [beq_eq_false_iff_ne]; omega
              have c2 := HR0.out w2 HB2.out
              clear HS hbE
              go_wp2_with fail
              go_loopw [1, 14, 16, 17, 18, 19, 20] (fun inn out i _ _ _ _ wr => ∃ (j : Nat) (ia2 : Option Addr) (ic2 n2 : Nat) (ls2 : List Nat) (A2 : Option Addr) (cp2 : Nat) (acc : List (List Lv)), j ≤ m ∧ i = .int .i64 j ∧ inn = .slice ia2 n2 ic2 ∧ out = .slice A2 L cp2 ∧ Below w.heap.size w wr ∧ n2 ≤ 64 ∧ n2 ≤ ic2 ∧ Hid (ic2 ≤ maxLen) ∧ Hid (n2 = ls2.length) ∧ Hid (COut wr w.heap.size (.slice A2 L cp2) L acc) ∧ Hid (Nums wr B ia2 ls2) ∧ Hid (∀ n ∈ ls2, n < 18446744073709551616) ∧ Hid (∀ i, (acc.getD i []).length + n2 ≤ 64) ∧ Hid (R = Sh.sJoin (Sh.sIn k (d + 1) p) (m - j) (if j = 0 then rp else p) p acc ls2)) (fun _ _ i _ _ _ _ _ => m - (intOf i).toNat)
              case atStart => exact ⟨0, _, _, 0, [], _, cp, _, Nat.zero_le _, rfl, rfl, rfl, HB2.out, by omega, by omega, Lib.hid (by unfold maxLen; omega), HNT, HE, Lib.hid (HCUT.out.below (HB2.out.mono hB)), HLT2, Lib.hid (fun i => by rw [Sh.rep_get]; simp only [List.length_nil]; omega), Lib.hid (by rw [Nat.sub_zero, if_pos rfl]; exact HRR.out)⟩
              case round =>
                obtain ⟨j, ia2, ic2, n2, ls2, A2, cp2, acc, hj, rfl, rfl, rfl, hbw, hn2, hnc2, HIC, HN2, HCO, HNU2, HLT3, HAB, HRJ⟩ := hrel
                rename World => wr
                by_cases hlt : j < m
                · have hjI : (j : Int) < (m : Int) := by omega
                  have hmj : m - j = (m - (j + 1)) + 1 := by omega
                  have HRS := Lib.hid (show R = (Sh.sIn k (d + 1) p (if j = 0 then rp else p) ls2).bind fun x => Sh.sJoin (Sh.sIn k (d + 1) p) (m - (j + 1)) p p (zipA acc x.1) x.2 by rw [HRJ.out, hmj]; rfl)
                  have c0 := HR0.out wr hbw
                  have HBW := Lib.hid hbw
                  clear hmj hbw
                  by_cases hj0 : j = 0
                  · have hj0I : ¬ (0 : Int) < (j : Int) := by omega
                    have HC := Lib.hid (HCI.out (d + 1) p rp ia2 ic2 ls2 wr HBW.out (by have := HKD.out; omega) (by have := HKD.out; omega) (by have := HKD.out; omega) (by rw [← HN2.out]; exact hn2) (by rw [← HN2.out]; exact hnc2) HIC.out HLT3.out HNU2.out)
                    rw [← HN2.out, ← HL.out] at HC
                    have HRS := Lib.hid (show R = (Sh.sIn k (d + 1) p rp ls2).bind fun x => Sh.sJoin (Sh.sIn k (d + 1) p) (m - (j + 1)) p p (zipA acc x.1) x.2 by have := HRS.out; rwa [if_pos hj0] at this)
                    have HFT := Lib.hid (fun C l (h : Sh.sIn k (d + 1) p rp ls2 = some (C, l)) => sIn_fits h (by rw [← HN2.out]; exact hn2))
                    clear hj0
                    go_wp2_with fail
                    refine (HC.out).mono ?_
                    rintro e w3 ⟨hb3, hm3⟩
                    cases hQ : Sh.sIn k (d + 1) p rp ls2 with
                    | none =>
                      rw [hQ] at hm3
                      obtain rfl := hm3
                      have HRN := Lib.hid (show R = none by rw [HRS.out, hQ]; rfl)
                      have HB3 := Lib.hid (below_then HBW.out hb3)
                      clear hQ hb3
                      go_wp2_with fail
                      refine bodyPost_ret (v := .tuple #[.slice none 0 0, .slice none 0 0, .bool false]) (by simp [results, Try.results44, go_sem]) rfl ⟨HB3.out, ?_⟩
                      rw [HRN.out]
                    | some x =>
                      obtain ⟨C, l⟩ := x
                      rw [hQ] at hm3
                      obtain ⟨A3, cp3, a3, c3, rfl, hC3, hN3, hl3, hm3, hlt3⟩ := hm3
                      obtain ⟨hf1, hf2⟩ := HFT.out C l hQ
                      have HRN := Lib.hid (show R = Sh.sJoin (Sh.sIn k (d + 1) p) (m - (j + 1)) (if j + 1 = 0 then rp else p) p (zipA acc C) l by rw [HRS.out, hQ, if_neg (by omega)]; rfl)
                      obtain ⟨nl, hnl⟩ : ∃ n, n = l.length := ⟨_, rfl⟩
                      rw [← hnl] at hl3 ⊢
                      have hnl9 : nl ≤ n2 := by have := hf2 0; have := HN2.out; omega
                      have HJ := Lib.hid (join_any w3 w.heap.size wr.heap.size L (.slice A2 L cp2) (.slice A3 L cp3) acc C (HCO.out.next hb3) hC3 hL9 (fun i => by have := HAB.out i; have := hf2 i; have := HN2.out; omega))
                      have HZB := Lib.hid (show ∀ i, ((zipA acc C).getD i []).length + nl ≤ 64 from fun i => by
                        rw [Sh.zipA_get _ _ (by rw [HCO.out.1, hf1, HL.out]), List.length_append]
                        have := HAB.out i; have := hf2 i; have := HN2.out; omega)
                      have HN3 := Lib.hid hN3
                      have HL3 := Lib.hid hlt3
                      have HM3 := Lib.hid hm3
                      have HNL := Lib.hid hnl
                      have HB3 := Lib.hid (below_then HBW.out hb3)
                      have hws : w.heap.size ≤ w3.heap.size := HB3.out.size
                      clear hQ hC3 hN3 hm3 hlt3 hf1 hf2 hnl hb3
                      go_wp2_with fail
                      refine (HJ.out).mono ?_
                      rintro e w4 ⟨A4, cp4, rfl, hC4, hb4⟩
                      have HC4 := Lib.hid (hC4.down hws)
                      have HN4 := Lib.hid (HN3.out.below (hb4.mono (Nat.le_trans hB hws)))
                      have HB4 := Lib.hid (below_then HB3.out hb4)
                      clear hC4 hb4
                      go_wp2_with fail
                      exact ⟨⟨j + 1, a3, c3, nl, l, A4, cp4, zipA acc C, by omega, by go_num, rfl, rfl, HB4.out, by omega, hl3, HM3, HNL, HC4, HN4, HL3, HZB, HRN⟩, by simp [intOf]; omega⟩
                  · exfalso; omega
                · obtain rfl : j = m := by omega
                  have hjI : ¬ (j : Int) < (j : Int) := by omega
                  have HRF := Lib.hid (show R = some (acc, ls2) by rw [HRJ.out, Nat.sub_self]; rfl)
                  have HBW := Lib.hid hbw
                  clear hbw
                  go_wp2_with fail
                  refine bodyPost_ret (v := .tuple #[.slice A2 L cp2, .slice ia2 n2 ic2, .bool true]) (by simp [results, Try.results44, go_sem]) rfl ⟨HBW.out, ?_⟩
                  rw [HRF.out, HN2.out]
                  exact ⟨_, _, _, _, rfl, HCO.out, HNU2.out, by rw [← HN2.out]; exact hnc2, HIC.out, HLT3.out⟩
          · have HS : Hid (Sh.sOne (Sh.sIn k (dn 2 d) (rn 2 p)) 2 L d (rn 2 p) rp (m :: []) = if m = 0 then some (List.replicate L [((rp : Int), (d : Int), 0)], []) else Sh.sJoin (Sh.sIn k (d + 1) (p + 1)) m rp (p + 1) (List.replicate L []) []) := HS
            obtain ⟨R, hR⟩ : ∃ R, R = Sh.sOne (Sh.sIn k (dn 2 d) (rn 2 p)) 2 L d (rn 2 p) rp (m :: []) := ⟨_, rfl⟩
            rw [← hR] at HS ⊢
            clear hR
            go_enter Try.func44, Try.ntmps44
            go_wp2_with fail
            refine (HLO.out).mono ?_
            rintro e w1 ⟨rfl, rfl⟩
            go_wp2_with fail
            refine (HEM.out).mono ?_
            rintro e w2 ⟨A, cp, rfl, hE, hbE⟩
            obtain ⟨g, rfl⟩ : ∃ g, A = some ⟨g, 0, none⟩ := by
              obtain ⟨-, vs, h2, -⟩ := hE
              rcases h2.2 with ⟨-, h0⟩ | ⟨g, cap, cur, e, -⟩
              · omega
              · injection e with e1; exact ⟨g, e1⟩
            have HE := Lib.hid hE
            have hgw : w.heap.size ≤ g := by
              obtain ⟨-, vs, h2, -⟩ := hE
              exact (h2.lt g rfl).1
            clear hE
            by_cases hm : m = 0
            · subst hm
              have HRR := Lib.hid (HS.out.trans (if_pos rfl))
              have HB2 := Lib.hid hbE
              clear HS hbE
              go_wp2_with fail
              go_loopw [15] (fun i wr => ∃ j : Nat, j ≤ L ∧ i = .int .i64 j ∧ Below w.heap.size w wr ∧ Hid (COut wr w.heap.size (.slice (some ⟨g, 0, none⟩) L cp) L (nzs L j ((rp : Int), (d : Int), 0)))) (fun i _ => L - (intOf i).toNat)
              case atStart => exact ⟨0, Nat.zero_le _, rfl, HB2.out, Lib.hid (by rw [nzs_zero]; exact HE.out)⟩
              case round =>
                obtain ⟨j, hj, rfl, hbw, HCO⟩ := hrel
                rename World => wr
                by_cases hlt : j < L
                · have hjI : (j : Int) < (L : Int) := by omega
                  have hco2 := HCO.out.next ((Below.refl wr.heap.size wr).alloc (Nat.le_refl _) (.cells #[.int .i64 (rp : Int), .int .i64 (d : Int), .int .u64 0] 43))
                  have hyr : (wr.alloc (.cells #[.int .i64 (rp : Int), .int .i64 (d : Int), .int .u64 0] 43)).ownsRow w.heap.size 43 3 (.slice (some ⟨wr.heap.size, 0, none⟩) 1 1) 1 (lvals [((rp : Int), (d : Int), 0)]) := lvrow_lit (l := [((rp : Int), (d : Int), 0)]) (heap_alloc_new _ _) hbw.size (show 1 ≤ maxLen by decide)
                  obtain ⟨k1, k2⟩ := hco2.set hlt hyr
                  rw [nzs_set hlt] at k1
                  have HK1 := Lib.hid k1
                  have HBN := Lib.hid ((hbw.alloc hbw.size (.cells #[.int .i64 (rp : Int), .int .i64 (d : Int), .int .u64 0] 43)).setCell (p := ⟨g, j, none⟩) hgw (.slice (some ⟨wr.heap.size, 0, none⟩) 1 1))
                  obtain ⟨-, vs, o2, -⟩ := hco2
                  have hvl : vs.length = L := by rw [o2.1, Nat.mul_one]
                  have y0 := o2.cellAt j (by omega)
                  rw [List.getElem?_eq_getElem (show j < vs.length by omega)] at y0
                  have y1 := o2.frozenAt j
                  generalize vs[j] = vj at y0
                  clear k1 k2 hyr o2 hvl hbw
                  go_wp2_with fail
                  exact ⟨⟨j + 1, by omega, by go_num, HBN.out, HK1⟩, by simp [intOf]; omega⟩
                · obtain rfl : j = L := by omega
                  have hjI : ¬ (j : Int) < (j : Int) := by omega
                  have HF := Lib.hid (show COut wr w.heap.size (.slice (some ⟨g, 0, none⟩) j cp) j (List.replicate j [((rp : Int), (d : Int), 0)]) by have := HCO.out; rwa [nzs_all] at this)
                  have HNN := Lib.hid (HCUT.out.below (hbw.mono hB))
                  have HBW := Lib.hid hbw
                  clear hbw
                  go_wp2_with fail
                  refine bodyPost_ret (v := .tuple #[.slice (some ⟨g, 0, none⟩) j cp, .slice (some ⟨bi, oi, none⟩) 0 0, .bool true]) (by simp [results, Try.results44, go_sem]) rfl ⟨HBW.out, ?_⟩
                  rw [HRR.out]
                  exact ⟨_, _, _, _, rfl, HF.out, HNN.out, Nat.le_refl _, by unfold maxLen; omega, HLT2.out⟩
            · have HRR := Lib.hid (HS.out.trans (if_neg hm))
              have HB2 := Lib.hid hbE
              have hmb : ((m : Int) == 0) = false := by rw [beq_eq_false_iff_ne]; omega
              have c2 := HR0.out w2 HB2.out
              clear HS hbE
              go_wp2_with fail
              go_loopw [1, 14, 16, 17, 18, 19, 20] (fun inn out i _ _ _ _ wr => ∃ (j : Nat) (ia2 : Option Addr) (ic2 n2 : Nat) (ls2 : List Nat) (A2 : Option Addr) (cp2 : Nat) (acc : List (List Lv)), j ≤ m ∧ i = .int .i64 j ∧ inn = .slice ia2 n2 ic2 ∧ out = .slice A2 L cp2 ∧ Below w.heap.size w wr ∧ n2 ≤ 64 ∧ n2 ≤ ic2 ∧ Hid (ic2 ≤ maxLen) ∧ Hid (n2 = ls2.length) ∧ Hid (COut wr w.heap.size (.slice A2 L cp2) L acc) ∧ Hid (Nums wr B ia2 ls2) ∧ Hid (∀ n ∈ ls2, n < 18446744073709551616) ∧ Hid (∀ i, (acc.getD i []).length + n2 ≤ 64) ∧ Hid (R = Sh.sJoin (Sh.sIn k (d + 1) (p + 1)) (m - j) (if j = 0 then rp else (p + 1)) (p + 1) acc ls2)) (fun _ _ i _ _ _ _ _ => m - (intOf i).toNat)
              case atStart => exact ⟨0, _, _, 0, [], _, cp, _, Nat.zero_le _, rfl, rfl, rfl, HB2.out, by omega, by omega, Lib.hid (by unfold maxLen; omega), HNT, HE, Lib.hid (HCUT.out.below (HB2.out.mono hB)), HLT2, Lib.hid (fun i => by rw [Sh.rep_get]; simp only [List.length_nil]; omega), Lib.hid (by rw [Nat.sub_zero, if_pos rfl]; exact HRR.out)⟩
              case round =>
                obtain ⟨j, ia2, ic2, n2, ls2, A2, cp2, acc, hj, rfl, rfl, rfl, hbw, hn2, hnc2, HIC, HN2, HCO, HNU2, HLT3, HAB, HRJ⟩ := hrel
                rename World => wr
                by_cases hlt : j < m
                · have hjI : (j : Int) < (m : Int) := by omega
                  have hmj : m - j = (m - (j + 1)) + 1 := by omega
                  have HRS := Lib.hid (show R = (Sh.sIn k (d + 1) (p + 1) (if j = 0 then rp else (p + 1)) ls2).bind fun x => Sh.sJoin (Sh.sIn k (d + 1) (p + 1)) (m - (j + 1)) (p + 1) (p + 1) (zipA acc x.1) x.2 by rw [HRJ.out, hmj]; rfl)
                  have c0 := HR0.out wr hbw
                  have HBW := Lib.hid hbw
                  clear hmj hbw
                  by_cases hj0 : j = 0
                  · have hj0I : ¬ (0 : Int) < (j : Int) := by omega
                    have HC := Lib.hid (HCI.out (d + 1) (p + 1) rp ia2 ic2 ls2 wr HBW.out (by have := HKD.out; omega) (by have := HKD.out; omega) (by have := HKD.out; omega) (by rw [← HN2.out]; exact hn2) (by rw [← HN2.out]; exact hnc2) HIC.out HLT3.out HNU2.out)
                    rw [← HN2.out, ← HL.out] at HC
                    have HRS := Lib.hid (show R = (Sh.sIn k (d + 1) (p + 1) rp ls2).bind fun x => Sh.sJoin (Sh.sIn k (d + 1) (p + 1)) (m - (j + 1)) (p + 1) (p + 1) (zipA acc x.1) x.2 by have := HRS.out; rwa [if_pos hj0] at this)
                    have HFT := Lib.hid (fun C l (h : Sh.sIn k (d + 1) (p + 1) rp ls2 = some (C, l)) => sIn_fits h (by rw [← HN2.out]; exact hn2))
                    clear hj0
                    go_wp2_with fail
                    refine (HC.out).mono ?_
                    rintro e w3 ⟨hb3, hm3⟩
                    cases hQ : Sh.sIn k (d + 1) (p + 1) rp ls2 with
                    | none =>
                      rw [hQ] at hm3
                      obtain rfl := hm3
                      have HRN := Lib.hid (show R = none by rw [HRS.out, hQ]; rfl)
                      have HB3 := Lib.hid (below_then HBW.out hb3)
                      clear hQ hb3
                      go_wp2_with fail
                      refine bodyPost_ret (v := .tuple #[.slice none 0 0, .slice none 0 0, .bool false]) (by simp [results, Try.results44, go_sem]) rfl ⟨HB3.out, ?_⟩
                      rw [HRN.out]
                    | some x =>
                      obtain ⟨C, l⟩ := x
                      rw [hQ] at hm3
                      obtain ⟨A3, cp3, a3, c3, rfl, hC3, hN3, hl3, hm3, hlt3⟩ := hm3
                      obtain ⟨hf1, hf2⟩ := HFT.out C l hQ
                      have HRN := Lib.hid (show R = Sh.sJoin (Sh.sIn k (d + 1) (p + 1)) (m - (j + 1)) (if j + 1 = 0 then rp else (p + 1)) (p + 1) (zipA acc C) l by rw [HRS.out, hQ, if_neg (by omega)]; rfl)
                      obtain ⟨nl, hnl⟩ : ∃ n, n = l.length := ⟨_, rfl⟩
                      rw [← hnl] at hl3 ⊢
                      have hnl9 : nl ≤ n2 := by have := hf2 0; have := HN2.out; omega
                      have HJ := Lib.hid (join_any w3 w.heap.size wr.heap.size L (.slice A2 L cp2) (.slice A3 L cp3) acc C (HCO.out.next hb3) hC3 hL9 (fun i => by have := HAB.out i; have := hf2 i; have := HN2.out; omega))
                      have HZB := Lib.hid (show ∀ i, ((zipA acc C).getD i []).length + nl ≤ 64 from fun i => by
                        rw [Sh.zipA_get _ _ (by rw [HCO.out.1, hf1, HL.out]), List.length_append]
                        have := HAB.out i; have := hf2 i; have := HN2.out; omega)
                      have HN3 := Lib.hid hN3
                      have HL3 := Lib.hid hlt3
                      have HM3 := Lib.hid hm3
                      have HNL := Lib.hid hnl
                      have HB3 := Lib.hid (below_then HBW.out hb3)
                      have hws : w.heap.size ≤ w3.heap.size := HB3.out.size
                      clear hQ hC3 hN3 hm3 hlt3 hf1 hf2 hnl hb3
                      go_wp2_with fail
                      refine (HJ.out).mono ?_
                      rintro e w4 ⟨A4, cp4, rfl, hC4, hb4⟩
                      have HC4 := Lib.hid (hC4.down hws)
                      have HN4 := Lib.hid (HN3.out.below (hb4.mono (Nat.le_trans hB hws)))
                      have HB4 := Lib.hid (below_then HB3.out hb4)
                      clear hC4 hb4
                      go_wp2_with fail
                      exact ⟨⟨j + 1, a3, c3, nl, l, A4, cp4, zipA acc C, by omega, by go_num, rfl, rfl, HB4.out, by omega, hl3, HM3, HNL, HC4, HN4, HL3, HZB, HRN⟩, by simp [intOf]; omega⟩
                  · have hj0I : (0 : Int) < (j : Int) := by omega
                    have HC := Lib.hid (HCI.out (d + 1) (p + 1) (p + 1) ia2 ic2 ls2 wr HBW.out (by have := HKD.out; omega) (by have := HKD.out; omega) (by have := HKD.out; omega) (by rw [← HN2.out]; exact hn2) (by rw [← HN2.out]; exact hnc2) HIC.out HLT3.out HNU2.out)
                    rw [← HN2.out, ← HL.out] at HC
                    have HRS := Lib.hid (show R = (Sh.sIn k (d + 1) (p + 1) (p + 1) ls2).bind fun x => Sh.sJoin (Sh.sIn k (d + 1) (p + 1)) (m - (j + 1)) (p + 1) (p + 1) (zipA acc x.1) x.2 by have := HRS.out; rwa [if_neg hj0] at this)
                    have HFT := Lib.hid (fun C l (h : Sh.sIn k (d + 1) (p + 1) (p + 1) ls2 = some (C, l)) => sIn_fits h (by rw [← HN2.out]; exact hn2))
                    clear hj0
                    go_wp2_with fail
                    refine (HC.out).mono ?_
                    rintro e w3 ⟨hb3, hm3⟩
                    cases hQ : Sh.sIn k (d + 1) (p + 1) (p + 1) ls2 with
                    | none =>
                      rw [hQ] at hm3
                      obtain rfl := hm3
                      have HRN := Lib.hid (show R = none by rw [HRS.out, hQ]; rfl)
                      have HB3 := Lib.hid (below_then HBW.out hb3)
                      clear hQ hb3
                      go_wp2_with fail
                      refine bodyPost_ret (v := .tuple #[.slice none 0 0, .slice none 0 0, .bool false]) (by simp [results, Try.results44, go_sem]) rfl ⟨HB3.out, ?_⟩
                      rw [HRN.out]
                    | some x =>
                      obtain ⟨C, l⟩ := x
                      rw [hQ] at hm3
                      obtain ⟨A3, cp3, a3, c3, rfl, hC3, hN3, hl3, hm3, hlt3⟩ := hm3
                      obtain ⟨hf1, hf2⟩ := HFT.out C l hQ
                      have HRN := Lib.hid (show R = Sh.sJoin (Sh.sIn k (d + 1) (p + 1)) (m - (j + 1)) (if j + 1 = 0 then rp else (p + 1)) (p + 1) (zipA acc C) l by rw [HRS.out, hQ, if_neg (by omega)]; rfl)
                      obtain ⟨nl, hnl⟩ : ∃ n, n = l.length := ⟨_, rfl⟩
                      rw [← hnl] at hl3 ⊢
                      have hnl9 : nl ≤ n2 := by have := hf2 0; have := HN2.out; omega
                      have HJ := Lib.hid (join_any w3 w.heap.size wr.heap.size L (.slice A2 L cp2) (.slice A3 L cp3) acc C (HCO.out.next hb3) hC3 hL9 (fun i => by have := HAB.out i; have := hf2 i; have := HN2.out; omega))
                      have HZB := Lib.hid (show ∀ i, ((zipA acc C).getD i []).length + nl ≤ 64 from fun i => by
                        rw [Sh.zipA_get _ _ (by rw [HCO.out.1, hf1, HL.out]), List.length_append]
                        have := HAB.out i; have := hf2 i; have := HN2.out; omega)
                      have HN3 := Lib.hid hN3
                      have HL3 := Lib.hid hlt3
                      have HM3 := Lib.hid hm3
                      have HNL := Lib.hid hnl
                      have HB3 := Lib.hid (below_then HBW.out hb3)
                      have hws : w.heap.size ≤ w3.heap.size := HB3.out.size
                      clear hQ hC3 hN3 hm3 hlt3 hf1 hf2 hnl hb3
                      go_wp2_with fail
                      refine (HJ.out).mono ?_
                      rintro e w4 ⟨A4, cp4, rfl, hC4, hb4⟩
                      have HC4 := Lib.hid (hC4.down hws)
                      have HN4 := Lib.hid (HN3.out.below (hb4.mono (Nat.le_trans hB hws)))
                      have HB4 := Lib.hid (below_then HB3.out hb4)
                      clear hC4 hb4
                      go_wp2_with fail
                      exact ⟨⟨j + 1, a3, c3, nl, l, A4, cp4, zipA acc C, by omega, by go_num, rfl, rfl, HB4.out, by omega, hl3, HM3, HNL, HC4, HN4, HL3, HZB, HRN⟩, by simp [intOf]; omega⟩
                · obtain rfl : j = m := by omega
                  have hjI : ¬ (j : Int) < (j : Int) := by omega
                  have HRF := Lib.hid (show R = some (acc, ls2) by rw [HRJ.out, Nat.sub_self]; rfl)
                  have HBW := Lib.hid hbw
                  clear hbw
                  go_wp2_with fail
                  refine bodyPost_ret (v := .tuple #[.slice A2 L cp2, .slice ia2 n2 ic2, .bool true]) (by simp [results, Try.results44, go_sem]) rfl ⟨HBW.out, ?_⟩
                  rw [HRF.out, HN2.out]
                  exact ⟨_, _, _, _, rfl, HCO.out, HNU2.out, by rw [← HN2.out]; exact hnc2, HIC.out, HLT3.out⟩
        · rw [if_neg hi1] at HCUT
          have hic : 1 ≤ icap := by omega
          rcases hr12 with rfl | rfl
          · have hI1 := hI1 rfl
            have HS : Hid (Sh.sOne (Sh.sIn k (dn 1 d) (rn 1 p)) 1 L d (rn 1 p) rp (m :: t) = if m = 0 then some (List.replicate L [((rp : Int), (d : Int), 0)], t) else Sh.sJoin (Sh.sIn k (d + 1) p) m rp p (List.replicate L []) t) := HS
            obtain ⟨R, hR⟩ : ∃ R, R = Sh.sOne (Sh.sIn k (dn 1 d) (rn 1 p)) 1 L d (rn 1 p) rp (m :: t) := ⟨_, rfl⟩
            rw [← hR] at HS ⊢
            clear hR
            go_enter Try.func44, Try.ntmps44
            go_wp2_with fail
            refine (HLO.out).mono ?_
            rintro e w1 ⟨rfl, rfl⟩
            go_wp2_with fail
            refine (HEM.out).mono ?_
            rintro e w2 ⟨A, cp, rfl, hE, hbE⟩
            obtain ⟨g, rfl⟩ : ∃ g, A = some ⟨g, 0, none⟩ := by
              obtain ⟨-, vs, h2, -⟩ := hE
              rcases h2.2 with ⟨-, h0⟩ | ⟨g, cap, cur, e, -⟩
              · omega
              · injection e with e1; exact ⟨g, e1⟩
            have HE := Lib.hid hE
            have hgw : w.heap.size ≤ g := by
              obtain ⟨-, vs, h2, -⟩ := hE
              exact (h2.lt g rfl).1
            clear hE
            by_cases hm : m = 0
            · subst hm
              have HRR := Lib.hid (HS.out.trans (if_pos rfl))
              have HB2 := Lib.hid hbE
              clear HS hbE
              go_wp2_with fail
              go_loopw [15] (fun i wr => ∃ j : Nat, j ≤ L ∧ i = .int .i64 j ∧ Below w.heap.size w wr ∧ Hid (COut wr w.heap.size (.slice (some ⟨g, 0, none⟩) L cp) L (nzs L j ((rp : Int), (d : Int), 0)))) (fun i _ => L - (intOf i).toNat)
              case atStart => exact ⟨0, Nat.zero_le _, rfl, HB2.out, Lib.hid (by rw [nzs_zero]; exact HE.out)⟩
              case round =>
                obtain ⟨j, hj, rfl, hbw, HCO⟩ := hrel
                rename World => wr
                by_cases hlt : j < L
                · have hjI : (j : Int) < (L : Int) := by omega
                  have hco2 := HCO.out.next ((Below.refl wr.heap.size wr).alloc (Nat.le_refl _) (.cells #[.int .i64 (rp : Int), .int .i64 (d : Int), .int .u64 0] 43))
                  have hyr : (wr.alloc (.cells #[.int .i64 (rp : Int), .int .i64 (d : Int), .int .u64 0] 43)).ownsRow w.heap.size 43 3 (.slice (some ⟨wr.heap.size, 0, none⟩) 1 1) 1 (lvals [((rp : Int), (d : Int), 0)]) := lvrow_lit (l := [((rp : Int), (d : Int), 0)]) (heap_alloc_new _ _) hbw.size (show 1 ≤ maxLen by decide)
                  obtain ⟨k1, k2⟩ := hco2.set hlt hyr
                  rw [nzs_set hlt] at k1
                  have HK1 := Lib.hid k1
                  have HBN := Lib.hid ((hbw.alloc hbw.size (.cells #[.int .i64 (rp : Int), .int .i64 (d : Int), .int .u64 0] 43)).setCell (p := ⟨g, j, none⟩) hgw (.slice (some ⟨wr.heap.size, 0, none⟩) 1 1))
                  obtain ⟨-, vs, o2, -⟩ := hco2
                  have hvl : vs.length = L := by rw [o2.1, Nat.mul_one]
                  have y0 := o2.cellAt j (by omega)
                  rw [List.getElem?_eq_getElem (show j < vs.length by omega)] at y0
                  have y1 := o2.frozenAt j
                  generalize vs[j] = vj at y0
                  clear k1 k2 hyr o2 hvl hbw
                  go_wp2_with fail
                  exact ⟨⟨j + 1, by omega, by go_num, HBN.out, HK1⟩, by simp [intOf]; omega⟩
                · obtain rfl : j = L := by omega
                  have hjI : ¬ (j : Int) < (j : Int) := by omega
                  have HF := Lib.hid (show COut wr w.heap.size (.slice (some ⟨g, 0, none⟩) j cp) j (List.replicate j [((rp : Int), (d : Int), 0)]) by have := HCO.out; rwa [nzs_all] at this)
                  have HNN := Lib.hid (HCUT.out.below (hbw.mono hB))
                  have HBW := Lib.hid hbw
                  clear hbw
                  go_wp2_with fail
                  refine bodyPost_ret (v := .tuple #[.slice (some ⟨g, 0, none⟩) j cp, .slice (some ⟨bi, oi + 1, none⟩) nt (icap - 1), .bool true]) (by simp [results, Try.results44, go_sem]) rfl ⟨HBW.out, ?_⟩
                  rw [HRR.out]
                  rw [HNT.out]
                  exact ⟨_, _, _, _, rfl, HF.out, HNN.out, by rw [← HNT.out]; omega, by unfold maxLen; omega, HLT2.out⟩
            · have HRR := Lib.hid (HS.out.trans (if_neg hm))
              have HB2 := Lib.hid hbE
              have hmb : ((m : Int) == 0) = false := by rw [beq_eq_false_iff_ne]; omega
              have c2 := HR0.out w2 HB2.out
              clear HS hbE
              go_wp2_with fail
              go_loopw [1, 14, 16, 17, 18, 19, 20] (fun inn out i _ _ _ _ wr => ∃ (j : Nat) (ia2 : Option Addr) (ic2 n2 : Nat) (ls2 : List Nat) (A2 : Option Addr) (cp2 : Nat) (acc : List (List Lv)), j ≤ m ∧ i = .int .i64 j ∧ inn = .slice ia2 n2 ic2 ∧ out = .slice A2 L cp2 ∧ Below w.heap.size w wr ∧ n2 ≤ 64 ∧ n2 ≤ ic2 ∧ Hid (ic2 ≤ maxLen) ∧ Hid (n2 = ls2.length) ∧ Hid (COut wr w.heap.size (.slice A2 L cp2) L acc) ∧ Hid (Nums wr B ia2 ls2) ∧ Hid (∀ n ∈ ls2, n < 18446744073709551616) ∧ Hid (∀ i, (acc.getD i []).length + n2 ≤ 64) ∧ Hid (R = Sh.sJoin (Sh.sIn k (d + 1) p) (m - j) (if j = 0 then rp else p) p acc ls2)) (fun _ _ i _ _ _ _ _ => m - (intOf i).toNat)
              case atStart => exact ⟨0, _, _, nt, t, _, cp, _, Nat.zero_le _, rfl, rfl, rfl, HB2.out, by omega, by omega, Lib.hid (by unfold maxLen; omega), HNT, HE, Lib.hid (HCUT.out.below (HB2.out.mono hB)), HLT2, Lib.hid (fun i => by rw [Sh.rep_get]; simp only [List.length_nil]; omega), Lib.hid (by rw [Nat.sub_zero, if_pos rfl]; exact HRR.out)⟩
              case round =>
                obtain ⟨j, ia2, ic2, n2, ls2, A2, cp2, acc, hj, rfl, rfl, rfl, hbw, hn2, hnc2, HIC, HN2, HCO, HNU2, HLT3, HAB, HRJ⟩ := hrel
                rename World => wr
                by_cases hlt : j < m
                · have hjI : (j : Int) < (m : Int) := by omega
                  have hmj : m - j = (m - (j + 1)) + 1 := by omega
                  have HRS := Lib.hid (show R = (Sh.sIn k (d + 1) p (if j = 0 then rp else p) ls2).bind fun x => Sh.sJoin (Sh.sIn k (d + 1) p) (m - (j + 1)) p p (zipA acc x.1) x.2 by rw [HRJ.out, hmj]; rfl)
                  have c0 := HR0.out wr hbw
                  have HBW := Lib.hid hbw
                  clear hmj hbw
                  by_cases hj0 : j = 0
                  · have hj0I : ¬ (0 : Int) < (j : Int) := by omega
                    have HC := Lib.hid (HCI.out (d + 1) p rp ia2 ic2 ls2 wr HBW.out (by have := HKD.out; omega) (by have := HKD.out; omega) (by have := HKD.out; omega) (by rw [← HN2.out]; exact hn2) (by rw [← HN2.out]; exact hnc2) HIC.out HLT3.out HNU2.out)
                    rw [← HN2.out, ← HL.out] at HC
                    have HRS := Lib.hid (show R = (Sh.sIn k (d + 1) p rp ls2).bind fun x => Sh.sJoin (Sh.sIn k (d + 1) p) (m - (j + 1)) p p (zipA acc x.1) x.2 by have := HRS.out; rwa [if_pos hj0] at this)
                    have HFT := Lib.hid (fun C l (h : Sh.sIn k (d + 1) p rp ls2 = some (C, l)) => sIn_fits h (by rw [← HN2.out]; exact hn2))
                    clear hj0
                    go_wp2_with fail
                    refine (HC.out).mono ?_
                    rintro e w3 ⟨hb3, hm3⟩
                    cases hQ : Sh.sIn k (d + 1) p rp ls2 with
                    | none =>
                      rw [hQ] at hm3
                      obtain rfl := hm3
                      have HRN := Lib.hid (show R = none by rw [HRS.out, hQ]; rfl)
                      have HB3 := Lib.hid (below_then HBW.out hb3)
                      clear hQ hb3
                      go_wp2_with fail
                      refine bodyPost_ret (v := .tuple #[.slice none 0 0, .slice none 0 0, .bool false]) (by simp [results, Try.results44, go_sem]) rfl ⟨HB3.out, ?_⟩
                      rw [HRN.out]
                    | some x =>
                      obtain ⟨C, l⟩ := x
                      rw [hQ] at hm3
                      obtain ⟨A3, cp3, a3, c3, rfl, hC3, hN3, hl3, hm3, hlt3⟩ := hm3
                      obtain ⟨hf1, hf2⟩ := HFT.out C l hQ
                      have HRN := Lib.hid (show R = Sh.sJoin (Sh.sIn k (d + 1) p) (m - (j + 1)) (if j + 1 = 0 then rp else p) p (zipA acc C) l by rw [HRS.out, hQ, if_neg (by omega)]; rfl)
                      obtain ⟨nl, hnl⟩ : ∃ n, n = l.length := ⟨_, rfl⟩
                      rw [← hnl] at hl3 ⊢
                      have hnl9 : nl ≤ n2 := by have := hf2 0; have := HN2.out; omega
                      have HJ := Lib.hid (join_any w3 w.heap.size wr.heap.size L (.slice A2 L cp2) (.slice A3 L cp3) acc C (HCO.out.next hb3) hC3 hL9 (fun i => by have := HAB.out i; have := hf2 i; have := HN2.out; omega))
                      have HZB := Lib.hid (show ∀ i, ((zipA acc C).getD i []).length + nl ≤ 64 from fun i => by
                        rw [Sh.zipA_get _ _ (by rw [HCO.out.1, hf1, HL.out]), List.length_append]
                        have := HAB.out i; have := hf2 i; have := HN2.out; omega)
                      have HN3 := Lib.hid hN3
                      have HL3 := Lib.hid hlt3
                      have HM3 := Lib.hid hm3
                      have HNL := Lib.hid hnl
                      have HB3 := Lib.hid (below_then HBW.out hb3)
                      have hws : w.heap.size ≤ w3.heap.size := HB3.out.size
                      clear hQ hC3 hN3 hm3 hlt3 hf1 hf2 hnl hb3
                      go_wp2_with fail
                      refine (HJ.out).mono ?_
                      rintro e w4 ⟨A4, cp4, rfl, hC4, hb4⟩
                      have HC4 := Lib.hid (hC4.down hws)
                      have HN4 := Lib.hid (HN3.out.below (hb4.mono (Nat.le_trans hB hws)))
                      have HB4 := Lib.hid (below_then HB3.out hb4)
                      clear hC4 hb4
                      go_wp2_with fail
                      exact ⟨⟨j + 1, a3, c3, nl, l, A4, cp4, zipA acc C, by omega, by go_num, rfl, rfl, HB4.out, by omega, hl3, HM3, HNL, HC4, HN4, HL3, HZB, HRN⟩, by simp [intOf]; omega⟩
                  · exfalso; omega
                · obtain rfl : j = m := by omega
                  have hjI : ¬ (j : Int) < (j : Int) := by omega
                  have HRF := Lib.hid (show R = some (acc, ls2) by rw [HRJ.out, Nat.sub_self]; rfl)
                  have HBW := Lib.hid hbw
                  clear hbw
                  go_wp2_with fail
                  refine bodyPost_ret (v := .tuple #[.slice A2 L cp2, .slice ia2 n2 ic2, .bool true]) (by simp [results, Try.results44, go_sem]) rfl ⟨HBW.out, ?_⟩
                  rw [HRF.out, HN2.out]
                  exact ⟨_, _, _, _, rfl, HCO.out, HNU2.out, by rw [← HN2.out]; exact hnc2, HIC.out, HLT3.out⟩
          · have HS : Hid (Sh.sOne (Sh.sIn k (dn 2 d) (rn 2 p)) 2 L d (rn 2 p) rp (m :: t) = if m = 0 then some (List.replicate L [((rp : Int), (d : Int), 0)], t) else Sh.sJoin (Sh.sIn k (d + 1) (p + 1)) m rp (p + 1) (List.replicate L []) t) := HS
            obtain ⟨R, hR⟩ : ∃ R, R = Sh.sOne (Sh.sIn k (dn 2 d) (rn 2 p)) 2 L d (rn 2 p) rp (m :: t) := ⟨_, rfl⟩
            rw [← hR] at HS ⊢
            clear hR
            go_enter Try.func44, Try.ntmps44
            go_wp2_with fail
            refine (HLO.out).mono ?_
            rintro e w1 ⟨rfl, rfl⟩
            go_wp2_with fail
            refine (HEM.out).mono ?_
            rintro e w2 ⟨A, cp, rfl, hE, hbE⟩
            obtain ⟨g, rfl⟩ : ∃ g, A = some ⟨g, 0, none⟩ := by
              obtain ⟨-, vs, h2, -⟩ := hE
              rcases h2.2 with ⟨-, h0⟩ | ⟨g, cap, cur, e, -⟩
              · omega
              · injection e with e1; exact ⟨g, e1⟩
            have HE := Lib.hid hE
            have hgw : w.heap.size ≤ g := by
              obtain ⟨-, vs, h2, -⟩ := hE
              exact (h2.lt g rfl).1
            clear hE
            by_cases hm : m = 0
            · subst hm
              have HRR := Lib.hid (HS.out.trans (if_pos rfl))
              have HB2 := Lib.hid hbE
              clear HS hbE
              go_wp2_with fail
              go_loopw [15] (fun i wr => ∃ j : Nat, j ≤ L ∧ i = .int .i64 j ∧ Below w.heap.size w wr ∧ Hid (COut wr w.heap.size (.slice (some ⟨g, 0, none⟩) L cp) L (nzs L j ((rp : Int), (d : Int), 0)))) (fun i _ => L - (intOf i).toNat)
              case atStart => exact ⟨0, Nat.zero_le _, rfl, HB2.out, Lib.hid (by rw [nzs_zero]; exact HE.out)⟩
              case round =>
                obtain ⟨j, hj, rfl, hbw, HCO⟩ := hrel
                rename World => wr
                by_cases hlt : j < L
                · have hjI : (j : Int) < (L : Int) := by omega
                  have hco2 := HCO.out.next ((Below.refl wr.heap.size wr).alloc (Nat.le_refl _) (.cells #[.int .i64 (rp : Int), .int .i64 (d : Int), .int .u64 0] 43))
                  have hyr : (wr.alloc (.cells #[.int .i64 (rp : Int), .int .i64 (d : Int), .int .u64 0] 43)).ownsRow w.heap.size 43 3 (.slice (some ⟨wr.heap.size, 0, none⟩) 1 1) 1 (lvals [((rp : Int), (d : Int), 0)]) := lvrow_lit (l := [((rp : Int), (d : Int), 0)]) (heap_alloc_new _ _) hbw.size (show 1 ≤ maxLen by decide)
                  obtain ⟨k1, k2⟩ := hco2.set hlt hyr
                  rw [nzs_set hlt] at k1
                  have HK1 := Lib.hid k1
                  have HBN := Lib.hid ((hbw.alloc hbw.size (.cells #[.int .i64 (rp : Int), .int .i64 (d : Int), .int .u64 0] 43)).setCell (p := ⟨g, j, none⟩) hgw (.slice (some ⟨wr.heap.size, 0, none⟩) 1 1))
                  obtain ⟨-, vs, o2, -⟩ := hco2
                  have hvl : vs.length = L := by rw [o2.1, Nat.mul_one]
                  have y0 := o2.cellAt j (by omega)
                  rw [List.getElem?_eq_getElem (show j < vs.length by omega)] at y0
                  have y1 := o2.frozenAt j
                  generalize vs[j] = vj at y0
                  clear k1 k2 hyr o2 hvl hbw
                  go_wp2_with fail
                  exact ⟨⟨j + 1, by omega, by go_num, HBN.out, HK1⟩, by simp [intOf]; omega⟩
                · obtain rfl : j = L := by omega
                  have hjI : ¬ (j : Int) < (j : Int) := by omega
                  have HF := Lib.hid (show COut wr w.heap.size (.slice (some ⟨g, 0, none⟩) j cp) j (List.replicate j [((rp : Int), (d : Int), 0)]) by have := HCO.out; rwa [nzs_all] at this)
                  have HNN := Lib.hid (HCUT.out.below (hbw.mono hB))
                  have HBW := Lib.hid hbw
                  clear hbw
                  go_wp2_with fail
                  refine bodyPost_ret (v := .tuple #[.slice (some ⟨g, 0, none⟩) j cp, .slice (some ⟨bi, oi + 1, none⟩) nt (icap - 1), .bool true]) (by simp [results, Try.results44, go_sem]) rfl ⟨HBW.out, ?_⟩
                  rw [HRR.out]
                  rw [HNT.out]
                  exact ⟨_, _, _, _, rfl, HF.out, HNN.out, by rw [← HNT.out]; omega, by unfold maxLen; omega, HLT2.out⟩
            · have HRR := Lib.hid (HS.out.trans (if_neg hm))
              have HB2 := Lib.hid hbE
              have hmb : ((m : Int) == 0) = false := by rw [beq_eq_false_iff_ne]; omega
              have c2 := HR0.out w2 HB2.out
              clear HS hbE
              go_wp2_with fail
              go_loopw [1, 14, 16, 17, 18, 19, 20] (fun inn out i _ _ _ _ wr => ∃ (j : Nat) (ia2 : Option Addr) (ic2 n2 : Nat) (ls2 : List Nat) (A2 : Option Addr) (cp2 : Nat) (acc : List (List Lv)), j ≤ m ∧ i = .int .i64 j ∧ inn = .slice ia2 n2 ic2 ∧ out = .slice A2 L cp2 ∧ Below w.heap.size w wr ∧ n2 ≤ 64 ∧ n2 ≤ ic2 ∧ Hid (ic2 ≤ maxLen) ∧ Hid (n2 = ls2.length) ∧ Hid (COut wr w.heap.size (.slice A2 L cp2) L acc) ∧ Hid (Nums wr B ia2 ls2) ∧ Hid (∀ n ∈ ls2, n < 18446744073709551616) ∧ Hid (∀ i, (acc.getD i []).length + n2 ≤ 64) ∧ Hid (R = Sh.sJoin (Sh.sIn k (d + 1) (p + 1)) (m - j) (if j = 0 then rp else (p + 1)) (p + 1) acc ls2)) (fun _ _ i _ _ _ _ _ => m - (intOf i).toNat)
              case atStart => exact ⟨0, _, _, nt, t, _, cp, _, Nat.zero_le _, rfl, rfl, rfl, HB2.out, by omega, by omega, Lib.hid (by unfold maxLen; omega), HNT, HE, Lib.hid (HCUT.out.below (HB2.out.mono hB)), HLT2, Lib.hid (fun i => by rw [Sh.rep_get]; simp only [List.length_nil]; omega), Lib.hid (by rw [Nat.sub_zero, if_pos rfl]; exact HRR.out)⟩
              case round =>
                obtain ⟨j, ia2, ic2, n2, ls2, A2, cp2, acc, hj, rfl, rfl, rfl, hbw, hn2, hnc2, HIC, HN2, HCO, HNU2, HLT3, HAB, HRJ⟩ := hrel
                rename World => wr
                by_cases hlt : j < m
                · have hjI : (j : Int) < (m : Int) := by omega
                  have hmj : m - j = (m - (j + 1)) + 1 := by omega
                  have HRS := Lib.hid (show R = (Sh.sIn k (d + 1) (p + 1) (if j = 0 then rp else (p + 1)) ls2).bind fun x => Sh.sJoin (Sh.sIn k (d + 1) (p + 1)) (m - (j + 1)) (p + 1) (p + 1) (zipA acc x.1) x.2 by rw [HRJ.out, hmj]; rfl)
                  have c0 := HR0.out wr hbw
                  have HBW := Lib.hid hbw
                  clear hmj hbw
                  by_cases hj0 : j = 0
                  · have hj0I : ¬ (0 : Int) < (j : Int) := by omega
                    have HC := Lib.hid (HCI.out (d + 1) (p + 1) rp ia2 ic2 ls2 wr HBW.out (by have := HKD.out; omega) (by have := HKD.out; omega) (by have := HKD.out; omega) (by rw [← HN2.out]; exact hn2) (by rw [← HN2.out]; exact hnc2) HIC.out HLT3.out HNU2.out)
                    rw [← HN2.out, ← HL.out] at HC
                    have HRS := Lib.hid (show R = (Sh.sIn k (d + 1) (p + 1) rp ls2).bind fun x => Sh.sJoin (Sh.sIn k (d + 1) (p + 1)) (m - (j + 1)) (p + 1) (p + 1) (zipA acc x.1) x.2 by have := HRS.out; rwa [if_pos hj0] at this)
                    have HFT := Lib.hid (fun C l (h : Sh.sIn k (d + 1) (p + 1) rp ls2 = some (C, l)) => sIn_fits h (by rw [← HN2.out]; exact hn2))
                    clear hj0
                    go_wp2_with fail
                    refine (HC.out).mono ?_
                    rintro e w3 ⟨hb3, hm3⟩
                    cases hQ : Sh.sIn k (d + 1) (p + 1) rp ls2 with
                    | none =>
                      rw [hQ] at hm3
                      obtain rfl := hm3
                      have HRN := Lib.hid (show R = none by rw [HRS.out, hQ]; rfl)
                      have HB3 := Lib.hid (below_then HBW.out hb3)
                      clear hQ hb3
                      go_wp2_with fail
                      refine bodyPost_ret (v := .tuple #[.slice none 0 0, .slice none 0 0, .bool false]) (by simp [results, Try.results44, go_sem]) rfl ⟨HB3.out, ?_⟩
                      rw [HRN.out]
                    | some x =>
                      obtain ⟨C, l⟩ := x
                      rw [hQ] at hm3
                      obtain ⟨A3, cp3, a3, c3, rfl, hC3, hN3, hl3, hm3, hlt3⟩ := hm3
                      obtain ⟨hf1, hf2⟩ := HFT.out C l hQ
                      have HRN := Lib.hid (show R = Sh.sJoin (Sh.sIn k (d + 1) (p + 1)) (m - (j + 1)) (if j + 1 = 0 then rp else (p + 1)) (p + 1) (zipA acc C) l by rw [HRS.out, hQ, if_neg (by omega)]; rfl)
                      obtain ⟨nl, hnl⟩ : ∃ n, n = l.length := ⟨_, rfl⟩
                      rw [← hnl] at hl3 ⊢
                      have hnl9 : nl ≤ n2 := by have := hf2 0; have := HN2.out; omega
                      have HJ := Lib.hid (join_any w3 w.heap.size wr.heap.size L (.slice A2 L cp2) (.slice A3 L cp3) acc C (HCO.out.next hb3) hC3 hL9 (fun i => by have := HAB.out i; have := hf2 i; have := HN2.out; omega))
                      have HZB := Lib.hid (show ∀ i, ((zipA acc C).getD i []).length + nl ≤ 64 from fun i => by
                        rw [Sh.zipA_get _ _ (by rw [HCO.out.1, hf1, HL.out]), List.length_append]
                        have := HAB.out i; have := hf2 i; have := HN2.out; omega)
                      have HN3 := Lib.hid hN3
                      have HL3 := Lib.hid hlt3
                      have HM3 := Lib.hid hm3
                      have HNL := Lib.hid hnl
                      have HB3 := Lib.hid (below_then HBW.out hb3)
                      have hws : w.heap.size ≤ w3.heap.size := HB3.out.size
                      clear hQ hC3 hN3 hm3 hlt3 hf1 hf2 hnl hb3
                      go_wp2_with fail
                      refine (HJ.out).mono ?_
                      rintro e w4 ⟨A4, cp4, rfl, hC4, hb4⟩
                      have HC4 := Lib.hid (hC4.down hws)
                      have HN4 := Lib.hid (HN3.out.below (hb4.mono (Nat.le_trans hB hws)))
                      have HB4 := Lib.hid (below_then HB3.out hb4)
                      clear hC4 hb4
                      go_wp2_with fail
                      exact ⟨⟨j + 1, a3, c3, nl, l, A4, cp4, zipA acc C, by omega, by go_num, rfl, rfl, HB4.out, by omega, hl3, HM3, HNL, HC4, HN4, HL3, HZB, HRN⟩, by simp [intOf]; omega⟩
                  · have hj0I : (0 : Int) < (j : Int) := by omega
                    have HC := Lib.hid (HCI.out (d + 1) (p + 1) (p + 1) ia2 ic2 ls2 wr HBW.out (by have := HKD.out; omega) (by have := HKD.out; omega) (by have := HKD.out; omega) (by rw [← HN2.out]; exact hn2) (by rw [← HN2.out]; exact hnc2) HIC.out HLT3.out HNU2.out)
                    rw [← HN2.out, ← HL.out] at HC
                    have HRS := Lib.hid (show R = (Sh.sIn k (d + 1) (p + 1) (p + 1) ls2).bind fun x => Sh.sJoin (Sh.sIn k (d + 1) (p + 1)) (m - (j + 1)) (p + 1) (p + 1) (zipA acc x.1) x.2 by have := HRS.out; rwa [if_neg hj0] at this)
                    have HFT := Lib.hid (fun C l (h : Sh.sIn k (d + 1) (p + 1) (p + 1) ls2 = some (C, l)) => sIn_fits h (by rw [← HN2.out]; exact hn2))
                    clear hj0
                    go_wp2_with fail
                    refine (HC.out).mono ?_
                    rintro e w3 ⟨hb3, hm3⟩
                    cases hQ : Sh.sIn k (d + 1) (p + 1) (p + 1) ls2 with
                    | none =>
                      rw [hQ] at hm3
                      obtain rfl := hm3
                      have HRN := Lib.hid (show R = none by rw [HRS.out, hQ]; rfl)
                      have HB3 := Lib.hid (below_then HBW.out hb3)
                      clear hQ hb3
                      go_wp2_with fail
                      refine bodyPost_ret (v := .tuple #[.slice none 0 0, .slice none 0 0, .bool false]) (by simp [results, Try.results44, go_sem]) rfl ⟨HB3.out, ?_⟩
                      rw [HRN.out]
                    | some x =>
                      obtain ⟨C, l⟩ := x
                      rw [hQ] at hm3
                      obtain ⟨A3, cp3, a3, c3, rfl, hC3, hN3, hl3, hm3, hlt3⟩ := hm3
                      obtain ⟨hf1, hf2⟩ := HFT.out C l hQ
                      have HRN := Lib.hid (show R = Sh.sJoin (Sh.sIn k (d + 1) (p + 1)) (m - (j + 1)) (if j + 1 = 0 then rp else (p + 1)) (p + 1) (zipA acc C) l by rw [HRS.out, hQ, if_neg (by omega)]; rfl)
                      obtain ⟨nl, hnl⟩ : ∃ n, n = l.length := ⟨_, rfl⟩
                      rw [← hnl] at hl3 ⊢
                      have hnl9 : nl ≤ n2 := by have := hf2 0; have := HN2.out; omega
                      have HJ := Lib.hid (join_any w3 w.heap.size wr.heap.size L (.slice A2 L cp2) (.slice A3 L cp3) acc C (HCO.out.next hb3) hC3 hL9 (fun i => by have := HAB.out i; have := hf2 i; have := HN2.out; omega))
                      have HZB := Lib.hid (show ∀ i, ((zipA acc C).getD i []).length + nl ≤ 64 from fun i => by
                        rw [Sh.zipA_get _ _ (by rw [HCO.out.1, hf1, HL.out]), List.length_append]
                        have := HAB.out i; have := hf2 i; have := HN2.out; omega)
                      have HN3 := Lib.hid hN3
                      have HL3 := Lib.hid hlt3
                      have HM3 := Lib.hid hm3
                      have HNL := Lib.hid hnl
                      have HB3 := Lib.hid (below_then HBW.out hb3)
                      have hws : w.heap.size ≤ w3.heap.size := HB3.out.size
                      clear hQ hC3 hN3 hm3 hlt3 hf1 hf2 hnl hb3
                      go_wp2_with fail
                      refine (HJ.out).mono ?_
                      rintro e w4 ⟨A4, cp4, rfl, hC4, hb4⟩
                      have HC4 := Lib.hid (hC4.down hws)
                      have HN4 := Lib.hid (HN3.out.below (hb4.mono (Nat.le_trans hB hws)))
                      have HB4 := Lib.hid (below_then HB3.out hb4)
                      clear hC4 hb4
                      go_wp2_with fail
                      exact ⟨⟨j + 1, a3, c3, nl, l, A4, cp4, zipA acc C, by omega, by go_num, rfl, rfl, HB4.out, by omega, hl3, HM3, HNL, HC4, HN4, HL3, HZB, HRN⟩, by simp [intOf]; omega⟩
                · obtain rfl : j = m := by omega
                  have hjI : ¬ (j : Int) < (j : Int) := by omega
                  have HRF := Lib.hid (show R = some (acc, ls2) by rw [HRJ.out, Nat.sub_self]; rfl)
                  have HBW := Lib.hid hbw
                  clear hbw
                  go_wp2_with fail
                  refine bodyPost_ret (v := .tuple #[.slice A2 L cp2, .slice ia2 n2 ic2, .bool true]) (by simp [results, Try.results44, go_sem]) rfl ⟨HBW.out, ?_⟩
                  rw [HRF.out, HN2.out]
                  exact ⟨_, _, _, _, rfl, HCO.out, HNU2.out, by rw [← HN2.out]; exact hnc2, HIC.out, HLT3.out⟩
end Go.Proofs.Ytjfkoledbegpfaa
