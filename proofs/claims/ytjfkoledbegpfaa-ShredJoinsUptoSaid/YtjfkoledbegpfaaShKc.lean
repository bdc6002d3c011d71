/- ShK7, ShK8, ShK9. -/
import Derived.Test.YtjfkoledbegpfaaShK6
import Derived.Test.YtjfkoledbegpfaaShR1
/- The walk of hypostyleref.shredInner. -/
namespace Go.Proofs.Ytjfkoledbegpfaa
open Go.RowKit
open Sh (Lv zipA)
set_option linter.unusedVariables false

theorem col_lit {W : World} {base G1 G2 : Nat} {x : Lv} (h1 : W.heap[G1]? = some (.cells (lvv x).toArray 43 (0, 0))) (h2 : W.heap[G2]? = some (.cells #[.slice (some ⟨G1, 0, none⟩) 1 1] 40 (0, 0))) (b1 : base ≤ G1) (b2 : base ≤ G2) : COut W base (.slice (some ⟨G2, 0, none⟩) 1 1) 1 [[x]] := by
  refine ⟨rfl, [.slice (some ⟨G1, 0, none⟩) 1 1], ⟨rfl, Or.inr ⟨G2, 1, _, rfl, b2, h2, Nat.le_refl _, by decide, rfl, rfl⟩⟩, fun i hi => ?_⟩
  obtain rfl : i = 0 := by omega
  have := lvrow_lit (l := [x]) (by rw [show lvals [x] = lvv x by simp [lvals]]; exact h1) b1 (show 1 ≤ maxLen by decide)
  exact this

theorem leaf_done (w : World) (x : Lv) : Below w.heap.size w ((w.alloc (.cells (lvv x).toArray 43)).alloc (.cells #[.slice (some ⟨w.heap.size, 0, none⟩) 1 1] 40)).drew ∧
    COut ((w.alloc (.cells (lvv x).toArray 43)).alloc (.cells #[.slice (some ⟨w.heap.size, 0, none⟩) 1 1] 40)).drew w.heap.size (.slice (some ⟨w.heap.size + 1, 0, none⟩) 1 1) 1 [[x]] := by
  have a1 := heap_alloc_new w (.cells (lvv x).toArray 43)
  have b1 := (Below.refl w.heap.size w).alloc (Nat.le_refl _) (.cells (lvv x).toArray 43)
  have s1 : (w.alloc (.cells (lvv x).toArray 43)).heap.size = w.heap.size + 1 := by simp
  generalize w.alloc (.cells (lvv x).toArray 43) = u at *
  have a2 := heap_alloc_new u (.cells #[.slice (some ⟨w.heap.size, 0, none⟩) 1 1] 40)
  rw [s1] at a2
  have b2 := (Below.refl u.heap.size u).alloc (Nat.le_refl _) (.cells #[.slice (some ⟨w.heap.size, 0, none⟩) 1 1] 40)
  have a3 := (b2.block w.heap.size (by omega)).trans a1
  refine ⟨(below_then b1 b2).drew, ?_⟩
  exact col_lit (W := (u.alloc (.cells #[.slice (some ⟨w.heap.size, 0, none⟩) 1 1] 40)).drew) a3 a2 (Nat.le_refl _) (Nat.le_succ _)

set_option maxHeartbeats 4000000 in
set_option maxRecDepth 100000 in
theorem inner_leaf : InnerC .nil := by
  intro r D P rp b off cap B ia icap ls w hu hB hc hcm hD hP hrp hok hl64 hlc hlm hlt hnu
  obtain ⟨bb, oo, e0, hbl, hcell⟩ := hu (by simp [Sh.flat])
  obtain ⟨rfl, rfl⟩ : b = bb ∧ off = oo := by cases e0; exact ⟨rfl, rfl⟩
  obtain ⟨-, h1⟩ := hcell 0 (by simp [Sh.flat])
  rw [show (Sh.flat (.cons r .nil .nil)).getD 0 Sh.fd0 = ((r : Int), 0) from rfl, Nat.zero_mul, Nat.add_zero] at h1
  simp only at h1
  have e1 : lv1 .nil = 1 := rfl
  have e2 : 1 + Sh.size .nil = 1 := rfl
  rw [e1, e2]
  rw [e2] at hc
  have hcm2 := hcm
  unfold maxLen at hcm2
  have hlm2 := hlm
  unfold maxLen at hlm2
  have hD9 : D ≤ 900 := by omega
  clear e0 hcell hu hok e1 e2 hD hP
  cases ls with
  | nil =>
    simp only [List.length_nil]
    go_enter Try.func29, Try.ntmps29
    go_wp2_with fail
    exact bodyPost_ret (v := .tuple #[.slice none 0 0, .slice none 0 0, .bool false]) (by simp [results, Try.results29, go_sem]) rfl ⟨Below.refl _ _, rfl⟩
  | cons m t =>
    obtain ⟨bi, oi, rfl, hbi, hci⟩ := hnu (by simp)
    have ci := hci 0 (by simp)
    rw [Nat.add_zero, show (m :: t).getD 0 0 = m from rfl] at ci
    have hm64 : m < 18446744073709551616 := hlt m (List.mem_cons_self ..)
    have hcut := Nums.cut1 hnu hlc
    have HLT2 := Lib.hid (show ∀ n ∈ t, n < 18446744073709551616 from fun n hn => hlt n (List.mem_cons_of_mem _ hn))
    have hS : Sh.sIn .nil D P rp (m :: t) = some ([[((rp : Int), (D : Int), m)]], t) := rfl
    rw [hS]
    obtain ⟨nt, hnt⟩ : ∃ n, n = t.length := ⟨_, rfl⟩
    have HNT := Lib.hid hnt
    simp only [List.length_cons] at hl64 hlc ⊢
    rw [← hnt] at hl64 hlc ⊢
    have f1 : ∀ W, Below w.heap.size w W → W.cell? ⟨bi, oi, none⟩ = some (.int .u64 (m : Nat)) := fun W hb => (hb.cell (p := ⟨bi, oi, none⟩) (show bi < w.heap.size by omega)).trans ci
    have HCUT := Lib.hid hcut
    have hself := Below.refl w.heap.size w
    clear hci hnu hlt hS hnt hcut
    by_cases hi1 : icap = 1
    · subst hi1
      obtain rfl : nt = 0 := by omega
      rw [if_pos rfl] at HCUT
      go_enter Try.func29, Try.ntmps29
      go_wp2_with fail
      go_region_held3 (fun W => Below w.heap.size w W)
        (first
          | assumption
          | exact (show Below w.heap.size w _ by assumption).drew
          | exact Below.alloc (by assumption) (Below.size (by assumption)) _)
        (fail)
      all_goals
        obtain ⟨k1, k2⟩ := leaf_done w ((rp : Int), (D : Int), m)
        have k1 : Below w.heap.size w ((w.alloc (.cells #[.int .i64 (rp : Int), .int .i64 (D : Int), .int .u64 (m : Nat)] 43)).alloc (.cells #[.slice (some ⟨w.heap.size, 0, none⟩) 1 1] 40)).drew := k1
        have k2 : COut ((w.alloc (.cells #[.int .i64 (rp : Int), .int .i64 (D : Int), .int .u64 (m : Nat)] 43)).alloc (.cells #[.slice (some ⟨w.heap.size, 0, none⟩) 1 1] 40)).drew w.heap.size (.slice (some ⟨w.heap.size + 1, 0, none⟩) 1 1) 1 [[((rp : Int), (D : Int), m)]] := k2
        generalize ((w.alloc (.cells #[.int .i64 (rp : Int), .int .i64 (D : Int), .int .u64 (m : Nat)] 43)).alloc (.cells #[.slice (some ⟨w.heap.size, 0, none⟩) 1 1] 40)).drew = W3 at *
        go_wp2_with fail
        refine bodyPost_ret (v := .tuple #[.slice (some ⟨w.heap.size + 1, 0, none⟩) 1 1, .slice (some ⟨bi, oi, none⟩) 0 0, .bool true]) (by simp [results, Try.results29, go_sem]) rfl ⟨k1, ?_⟩
        exact ⟨_, _, _, _, by rw [← HNT.out], k2, HCUT.out.below (k1.mono hB), by rw [← HNT.out]; exact Nat.le_refl _, Nat.zero_le _, HLT2.out⟩
    · rw [if_neg hi1] at HCUT
      have hic : 1 ≤ icap := by omega
      have hi2 : (1 : Int) ≤ (nt : Int) + 1 := by omega
      have hi3 : (nt : Int) + 1 ≤ (icap : Int) := by omega
      have hi4 : (1 : Int) ≤ (icap : Int) := by omega
      go_enter Try.func29, Try.ntmps29
      go_wp2_with fail
      go_region_held3 (fun W => Below w.heap.size w W)
        (first
          | assumption
          | exact (show Below w.heap.size w _ by assumption).drew
          | exact Below.alloc (by assumption) (Below.size (by assumption)) _)
        (fail)
      all_goals
        obtain ⟨k1, k2⟩ := leaf_done w ((rp : Int), (D : Int), m)
        have k1 : Below w.heap.size w ((w.alloc (.cells #[.int .i64 (rp : Int), .int .i64 (D : Int), .int .u64 (m : Nat)] 43)).alloc (.cells #[.slice (some ⟨w.heap.size, 0, none⟩) 1 1] 40)).drew := k1
        have k2 : COut ((w.alloc (.cells #[.int .i64 (rp : Int), .int .i64 (D : Int), .int .u64 (m : Nat)] 43)).alloc (.cells #[.slice (some ⟨w.heap.size, 0, none⟩) 1 1] 40)).drew w.heap.size (.slice (some ⟨w.heap.size + 1, 0, none⟩) 1 1) 1 [[((rp : Int), (D : Int), m)]] := k2
        generalize ((w.alloc (.cells #[.int .i64 (rp : Int), .int .i64 (D : Int), .int .u64 (m : Nat)] 43)).alloc (.cells #[.slice (some ⟨w.heap.size, 0, none⟩) 1 1] 40)).drew = W3 at *
        go_wp2_with fail
        refine bodyPost_ret (v := .tuple #[.slice (some ⟨w.heap.size + 1, 0, none⟩) 1 1, .slice (some ⟨bi, oi + 1, none⟩) nt (icap - 1), .bool true]) (by simp [results, Try.results29, go_sem]) rfl ⟨k1, ?_⟩
        exact ⟨_, _, _, _, by rw [← HNT.out], k2, HCUT.out.below (k1.mono hB), by rw [← HNT.out]; omega, by unfold maxLen; omega, HLT2.out⟩
end Go.Proofs.Ytjfkoledbegpfaa
/- The walk of hypostyleref.shredInner above kids. -/
namespace Go.Proofs.Ytjfkoledbegpfaa
open Go.RowKit
open Sh (Lv zipA)
set_option linter.unusedVariables false

theorem field_fits {r d p rep : Nat} {k : Sh.F} {ls l : List Nat} {C : List (List Lv)} (h : Sh.sOne (Sh.sIn k (dn r d) (rn r p)) r (lv1 k) d (rn r p) rep ls = some (C, l)) (hl : ls.length ≤ 64) : C.length = lv1 k ∧ l.length ≤ ls.length := by
  have hs : Sh.sal (.cons r k .nil) d p rep ls = some (C ++ [], l) := by rw [Sh.sal_cons, h]; rfl
  have e0 : Sh.leaves (.cons r k .nil) = lv1 k := by rw [leaves_cons]; rfl
  obtain ⟨e1, e2, -⟩ := (Sh.sg_al (lv1 k) (.cons r k .nil) d p 0 rep (by rw [e0]; omega)).some (cols := List.replicate (lv1 k) []) List.length_replicate hl hs
  rw [List.append_nil, e0] at e1
  have := e2 0
  exact ⟨e1, by omega⟩
theorem sal_round {r D P rp : Nat} {k s : Sh.F} {ls : List Nat} {acc : List (List Lv)} {R : Sh.SR} (h : R = (Sh.sal (.cons r k s) D P rp ls).bind fun y => some (acc ++ y.1, y.2)) :
    (Sh.sOne (Sh.sIn k (dn r D) (rn r P)) r (lv1 k) D (rn r P) rp ls = none → R = none) ∧ ∀ C l, Sh.sOne (Sh.sIn k (dn r D) (rn r P)) r (lv1 k) D (rn r P) rp ls = some (C, l) → R = (Sh.sal s D P rp l).bind fun y => some ((acc ++ C) ++ y.1, y.2) := by
  rw [Sh.sal_cons] at h
  refine ⟨fun e => by rw [h, e]; rfl, fun C l e => ?_⟩
  rw [h, e]
  simp only [Option.bind_some]
  cases Sh.sal s D P rp l with
  | none => rfl
  | some y => simp only [Option.bind_some, List.append_assoc]

set_option maxHeartbeats 4000000 in
set_option maxRecDepth 100000 in
theorem inner_kids (k : Sh.F) (hk0 : k ≠ .nil) (HF : ∀ k', Sh.size k' < Sh.size k → FieldC k') : InnerC k := by
  intro r D P rp b off cap B ia icap ls w hu hB hc hcm hD hP hrp hok hl64 hlc hlm hlt hnu
  have HFC := Lib.hid HF
  obtain ⟨L, hLe⟩ : ∃ L, L = 1 + Sh.size k := ⟨_, rfl⟩
  rw [← hLe] at hc ⊢
  have hcm2 := hcm
  unfold maxLen at hcm2
  have hlm2 := hlm
  unfold maxLen at hlm2
  have hL1 : 1 ≤ L := by omega
  have HUL := Lib.hid hu
  obtain ⟨bb, oo, e0, hbl, hcell⟩ := hu (by simp [Sh.flat])
  obtain ⟨rfl, rfl⟩ : b = bb ∧ off = oo := by cases e0; exact ⟨rfl, rfl⟩
  obtain ⟨-, h1⟩ := hcell 0 (by simp [Sh.flat])
  rw [show (Sh.flat (.cons r k .nil)).getD 0 Sh.fd0 = ((r : Int), (Sh.len k : Int)) from rfl, Nat.zero_mul, Nat.add_zero] at h1
  simp only at h1
  have HOK := Lib.hid hok.2.2.1
  have hkl := Sh.len_le k
  have HLE := Lib.hid hLe
  have hlv := Sh.leaves_le k
  have HLV1 := Lib.hid (show lv1 k = Sh.leaves k by cases k with | nil => exact absurd rfl hk0 | cons r' k' s' => rfl)
  obtain ⟨K, hK⟩ : ∃ K, K = Sh.len k := ⟨_, rfl⟩
  rw [← hK] at h1 hkl
  have HK := Lib.hid hK
  have hK9 : K ≤ 900 := by omega
  have HSK := Lib.hid (show D + Sh.size k ≤ 900 ∧ P + Sh.size k ≤ 900 ∧ Sh.leaves k ≤ 900 from ⟨hD, hP, by omega⟩)
  have hD9 : D ≤ 900 := by omega
  have hP9 : P ≤ 900 := by omega
  have HKID := Lib.hid (fun W (hb : Below w.heap.size w W) => show Calls Try.prog 43 #[.slice (some ⟨b, off, none⟩) L cap] W (KidsPost W b off cap k) by
    rw [HLE.out]
    exact kids_any r k b off cap B W (HUL.out.below (hb.mono hB)) (Nat.le_trans hB hb.size) (by have := HSK.out; omega) (by rw [← HLE.out]; exact hc) hcm)
  have hK1 : 1 ≤ K := by
    rw [hK]
    cases k with
    | nil => exact absurd rfl hk0
    | cons r' k' s' => simp only [Sh.len]; omega
  have hKb : ((K : Int) == 0) = false := by rw [beq_eq_false_iff_ne]; omega
  have HFL := Lib.hid (show (Sh.flat (.cons r k .nil)).drop 1 = Sh.flat k ++ [] from rfl)
  have HSR := Lib.hid (fun W (hb : Below w.heap.size w W) => HUL.out.below (hb.mono hB))
  have HNU := Lib.hid (fun W (hb : Below w.heap.size w W) => hnu.below (hb.mono hB))
  have HLT := Lib.hid hlt
  obtain ⟨R, hR⟩ : ∃ R, R = Sh.sIn k D P rp ls := ⟨_, rfl⟩
  have HR0 := Lib.hid (show R = (Sh.sal k D P rp ls).bind fun y => some ([] ++ y.1, y.2) by
    rw [hR]
    have e : Sh.sIn k D P rp ls = Sh.sal k D P rp ls := by cases k with | nil => exact absurd rfl hk0 | cons r' k' s' => rfl
    rw [e]
    cases Sh.sal k D P rp ls with
    | none => rfl
    | some y => rfl)
  rw [← hR]
  obtain ⟨n0, hn0⟩ : ∃ n, n = ls.length := ⟨_, rfl⟩
  rw [← hn0] at hl64 hlc ⊢
  have HN0 := Lib.hid hn0
  have HLM := Lib.hid hlm
  clear HF hu hok hLe e0 hcell hK hD hP hnu hlt hR hn0 hlv hk0
  go_enter Try.func29, Try.ntmps29
  go_wp2_with fail
  refine (HKID.out w (Below.refl _ _)).mono ?_
  rintro e w1 ⟨A1, cp1, rfl, hown1, hb1⟩
  rw [← HK.out] at hown1 ⊢
  obtain ⟨g, rfl⟩ : ∃ g, A1 = some ⟨g, 0, none⟩ := by
    rcases hown1.2 with ⟨-, h0⟩ | ⟨g, cap, cur, e, -⟩
    · omega
    · injection e with e1; exact ⟨g, e1⟩
  have HB1 := Lib.hid hb1
  have hgl := (hown1.lt g rfl).2
  have HCE := Lib.hid (fun W (hb : Below w1.heap.size w1 W) j (hj : j < K) => show W.cell? ⟨g, j, none⟩ = (kidV b off cap k 1)[j]? from (hb.cell (p := ⟨g, j, none⟩) hgl).trans (hown1.cellAt j (by omega)))
  clear hown1 hgl hb1 HKID
  go_wp2_with fail
  go_loopw [1, 14, 15, 16, 17, 18] (fun inn out i _ _ _ wr => ∃ (j at_ : Nat) (s : Sh.F) (ia2 : Option Addr) (ic2 n2 : Nat) (ls2 : List Nat) (A2 : Option Addr) (cp2 na : Nat) (acc : List (List Lv)) (pre : List Value), j + Sh.len s = K ∧ i = .int .i64 j ∧ inn = .slice ia2 n2 ic2 ∧ out = .slice A2 na cp2 ∧ Below w1.heap.size w1 wr ∧ at_ + Sh.size s = L ∧ Sh.size s < L ∧ n2 ≤ 64 ∧ n2 ≤ ic2 ∧ na ≤ 900 ∧
    Hid (ic2 ≤ maxLen) ∧ Hid (n2 = ls2.length) ∧ Hid (na + Sh.leaves s = Sh.leaves k) ∧ Hid (COut wr w1.heap.size (.slice A2 na cp2) na acc) ∧ Hid (Nums wr B ia2 ls2) ∧ Hid (∀ n ∈ ls2, n < 18446744073709551616) ∧ Hid ((Sh.flat (.cons r k .nil)).drop at_ = Sh.flat s ++ []) ∧ Hid (Sh.ok s) ∧ Hid (pre ++ kidV b off cap s at_ = kidV b off cap k 1 ∧ pre.length = j) ∧ Hid (R = (Sh.sal s D P rp ls2).bind fun y => some (acc ++ y.1, y.2))) (fun _ _ i _ _ _ _ => K - (intOf i).toNat)
  case atStart => exact ⟨0, 1, k, ia, icap, n0, ls, none, 0, 0, [], [], by rw [← HK.out, Nat.zero_add], rfl, rfl, rfl, Below.refl _ _, HLE.out.symm, by have := HLE.out; omega, hl64, hlc, by omega, HLM, HN0, Lib.hid (Nat.zero_add _), Lib.hid (COut.nil _ _), Lib.hid (HNU.out w1 HB1.out), HLT, HFL, HOK, Lib.hid ⟨rfl, rfl⟩, HR0⟩
  case round =>
    obtain ⟨j, at_, s, ia2, ic2, n2, ls2, A2, cp2, na, acc, pre, hjs, rfl, rfl, rfl, hbw, hat, hsL, hn64, hnc, hna, HIC, HN2, HNA, HCO, HNM, HLT2, HDS, HOS, HPR, HRR⟩ := hrel
    rename World => wr
    match s, hjs, hat, hsL, HNA, HDS, HOS, HPR, HRR with
    | .nil, hjs, hat, hsL, HNA, HDS, HOS, HPR, HRR =>
      simp only [Sh.len, Nat.add_zero] at hjs
      subst hjs
      have hjI : ¬ (j : Int) < (j : Int) := by omega
      have HRF := Lib.hid (show R = some (acc, ls2) by rw [HRR.out]; show some (acc ++ [], ls2) = _; rw [List.append_nil])
      have HNF := Lib.hid (show na = lv1 k by rw [HLV1.out, ← HNA.out]; rfl)
      have HBF := Lib.hid (below_then HB1.out hbw)
      have HWS := Lib.hid HB1.out.size
      clear hbw
      go_wp2_with fail
      refine bodyPost_ret (v := .tuple #[.slice A2 na cp2, .slice ia2 n2 ic2, .bool true]) (by simp [results, Try.results29, go_sem]) rfl ⟨HBF.out, ?_⟩
      rw [HRF.out, HN2.out, ← HNF.out]
      exact ⟨_, _, _, _, rfl, HCO.out.down HWS.out, HNM.out, by rw [← HN2.out]; exact hnc, HIC.out, HLT2.out⟩
    | .cons r' k' s', hjs, hat, hsL, HNA, HDS, HOS, HPR, HRR =>
      simp only [Sh.len] at hjs
      simp only [Sh.size] at hat hsL
      have hjI : (j : Int) < (K : Int) := by omega
      have hjK : j < K := by omega
      have hcell : wr.cell? ⟨g, j, none⟩ = some (.slice (some ⟨b, off + at_ * 2, none⟩) (1 + Sh.size k') (cap - at_)) := by
        have hcell := HCE.out wr hbw j hjK
        rw [← HPR.out.1, List.getElem?_append_right (by rw [HPR.out.2]; exact Nat.le_refl _), HPR.out.2, Nat.sub_self] at hcell
        exact hcell
      have hOk := HOS.out
      have HPR2 := Lib.hid (show (pre ++ [Value.slice (some ⟨b, off + at_ * 2, none⟩) (1 + Sh.size k') (cap - at_)]) ++ kidV b off cap s' (at_ + 1 + Sh.size k') = kidV b off cap k 1 ∧ (pre ++ [Value.slice (some ⟨b, off + at_ * 2, none⟩) (1 + Sh.size k') (cap - at_)]).length = j + 1 from ⟨by rw [List.append_assoc]; exact HPR.out.1, by rw [List.length_append, HPR.out.2]; rfl⟩)
      have HBW := Lib.hid (below_then HB1.out hbw)
      have HIH := Lib.hid (HFC.out k' (by have := HLE.out; omega) r' D P rp b (off + at_ * 2) (cap - at_) B ia2 ic2 ls2 wr ((HSR.out wr HBW.out).part (rest := Sh.flat s' ++ []) (by rw [HDS.out]; simp [Sh.flat])) (Nat.le_trans hB HBW.out.size) (by omega) (by unfold maxLen at hcm ⊢; omega) (by have := HLE.out; have := HSK.out; omega) (by have := HLE.out; have := HSK.out; omega) hrp ⟨hOk.1, hOk.2.1, hOk.2.2.1, trivial⟩ (by rw [← HN2.out]; exact hn64) (by rw [← HN2.out]; exact hnc) HIC.out HLT2.out HNM.out)
      rw [← HN2.out] at HIH
      have HDS2 := Lib.hid (show (Sh.flat (.cons r k .nil)).drop (at_ + 1 + Sh.size k') = Sh.flat s' ++ [] by
        have h1 : (Sh.flat (.cons r k .nil)).drop at_ = (((r' : Int), (Sh.len k' : Int)) :: Sh.flat k') ++ (Sh.flat s' ++ []) := by rw [HDS.out]; simp [Sh.flat]
        have h2 := drop_more h1
        rw [List.length_cons, Sh.flat_length] at h2
        rw [← h2]; congr 1; omega)
      have HOS2 := Lib.hid hOk.2.2.2
      have HRD := Lib.hid (sal_round HRR.out)
      have HFT := Lib.hid (fun C l (h : Sh.sOne (Sh.sIn k' (dn r' D) (rn r' P)) r' (lv1 k') D (rn r' P) rp ls2 = some (C, l)) => field_fits h (by rw [← HN2.out]; exact hn64))
      have HNA2 := Lib.hid (show (na + lv1 k') + Sh.leaves s' = Sh.leaves k by have := HNA.out; rw [leaves_cons] at this; omega)
      have hl1 : 0 < lv1 k' := lv1_pos k'
      have hna2 : na + lv1 k' ≤ 900 := by have := HNA2.out; have := HSK.out; omega
      generalize Sh.sOne (Sh.sIn k' (dn r' D) (rn r' P)) r' (lv1 k') D (rn r' P) rp ls2 = X at *
      obtain ⟨L', hL'⟩ : ∃ L', L' = lv1 k' := ⟨_, rfl⟩
      have HL' := Lib.hid hL'
      rw [← hL'] at hl1 hna2 HIH HNA2
      clear hOk hL'
      go_wp2_with fail
      refine (HIH.out).mono ?_
      rintro e w2 ⟨hb2, hm2⟩
      cases X with
      | none =>
        obtain rfl := hm2
        have HRN := Lib.hid (HRD.out.1 rfl)
        have HB2 := Lib.hid (below_then HBW.out hb2)
        clear hb2 hbw
        go_wp2_with fail
        refine bodyPost_ret (v := .tuple #[.slice none 0 0, .slice none 0 0, .bool false]) (by simp [results, Try.results29, go_sem]) rfl ⟨HB2.out, ?_⟩
        rw [HRN.out]
      | some x =>
        obtain ⟨C, l⟩ := x
        obtain ⟨A3, cp3, a3, c3, rfl, hC3, hN3, hl3, hm3, hlt3⟩ := hm2
        obtain ⟨hf1, hf2⟩ := HFT.out C l rfl
        have HRN := Lib.hid (HRD.out.2 C l rfl)
        obtain ⟨nl, hnl⟩ : ∃ n, n = l.length := ⟨_, rfl⟩
        rw [← hnl] at hl3 hf2 ⊢
        have hnl9 : nl ≤ n2 := by have := HN2.out; omega
        have HN3 := Lib.hid hN3
        have HL3 := Lib.hid hlt3
        have HM3 := Lib.hid hm3
        have HNL := Lib.hid hnl
        have hB2 : w1.heap.size ≤ w2.heap.size := Nat.le_trans hbw.size hb2.size
        have HB2 := Lib.hid (hbw.trans (hb2.mono hbw.size))
        have HC2 := Lib.hid (HCO.out.next hb2)
        have HC3 := Lib.hid (hC3.down hbw.size)
        have hb24 : (na + L') * 24 ≤ 140737488355328 := by omega
        have HWB := Lib.hid (Nat.le_trans hB (Nat.le_trans HB1.out.size hB2))
        clear hC3 hN3 hm3 hlt3 hf1 hf2 hnl hb2 hbw HIH hcell
        go_wp2_with (at_builtin; refine wpList_append_cols (by rfl) (.tmp 60) (.tmp 61) (by rfl) w1.heap.size _ na acc (by rfl) HC2.out A3 L' cp3 C (by rfl) HC3.out hl1 hb24 hB2 ?_; intro A9 cp9 w9 hown9 hb9)
        have HN9 := Lib.hid (HN3.out.below (hb9.mono (Nat.le_trans hB HB1.out.size)))
        have HB9 := Lib.hid (HB2.out.trans hb9)
        have HO9 := Lib.hid hown9
        clear hown9 hb9
        go_wp2_with fail
        exact ⟨⟨j + 1, at_ + 1 + Sh.size k', s', a3, c3, nl, l, A9, cp9, na + L', acc ++ C, _, by omega, by go_num, rfl, rfl, HB9.out, by omega, by omega, by omega, hl3, hna2, HM3, HNL, HNA2, HO9, HN9, HL3, HDS2, HOS2, HPR2, HRN⟩, by simp [intOf]; omega⟩
theorem inner_all (n : Nat) : ∀ k, Sh.size k < n → InnerC k := by
  induction n with
  | zero => intro k h; omega
  | succ m ih =>
    intro k hk
    by_cases h0 : k = .nil
    · subst h0; exact inner_leaf
    · exact inner_kids k h0 (fun k' h' => field_of k' (ih k' (by omega)))
theorem inner_any (k : Sh.F) : InnerC k := inner_all _ k (Nat.lt_succ_self _)
end Go.Proofs.Ytjfkoledbegpfaa
/- The walk of hypostyleref.ShredOf. -/
namespace Go.Proofs.Ytjfkoledbegpfaa
open Go.RowKit
open Sh (Lv zipA)
set_option linter.unusedVariables false

/-- the reference's columns -/
def OfPost (w : World) (R : Except Nat (List (List Lv))) (e : Ending) (w' : World) : Prop :=
  Below w.heap.size w w' ∧ match R with
  | .error n => e = .returned (.tuple #[.slice none 0 0, .int .i64 (n : Int)])
  | .ok cols => ∃ A cp, e = .returned (.tuple #[.slice A cols.length cp, .int .i64 0]) ∧ COut w' w.heap.size (.slice A cols.length cp) cols.length cols
theorem sRecs_step {k : Sh.F} {rs : List (List Nat)} {j : Nat} (hj : j < rs.length) (acc : List (List Lv)) : Sh.sRecs k (rs.drop j) acc = match Sh.sRec k (rs.getD j []) with
    | .error e => .error e
    | .ok D => Sh.sRecs k (rs.drop (j + 1)) (zipA acc D) := by
  rw [List.drop_eq_getElem_cons hj, Sh.sRecs, show rs.getD j [] = rs[j] by simp [List.getD, List.getElem?_eq_getElem hj]]
  cases Sh.sRec k rs[j] <;> rfl

set_option maxHeartbeats 4000000 in
set_option maxRecDepth 100000 in
theorem shredOf_any (a : Option Addr) (cap : Nat) (l : List Sh.Fd) (ra : Option Addr) (rcap : Nat) (rs : List (List Nat)) (w : World) (hcap : l.length ≤ cap) (hcm : cap ≤ maxLen) (hu : Fds w w.heap.size a l) (hrc : rs.length ≤ rcap) (hrm : rcap ≤ maxLen) (hr : NRows w w.heap.size ra rs) :
    Calls Try.prog 14 #[.slice a l.length cap, .slice ra rs.length rcap] w (OfPost w (Sh.shR l rs)) := by
  obtain ⟨R, hR⟩ : ∃ R, R = Sh.shR l rs := ⟨_, rfl⟩
  rw [← hR]
  have HR := Lib.hid hR
  have HFC := Lib.hid (formCheck_any a cap l w (by omega) hu)
  have hrm2 := hrm
  unfold maxLen at hrm2
  obtain ⟨m, hm⟩ : ∃ m, m = rs.length := ⟨_, rfl⟩
  rw [← hm] at hrc ⊢
  have HM := Lib.hid hm
  clear hR
  by_cases h0 : Sh.check l ≠ 0
  · have HRE := Lib.hid (show R = .error (Sh.check l) by rw [HR.out]; unfold Sh.shR; rw [if_pos h0])
    generalize Sh.check l = ck at *
    have hckI : ((ck : Int) != 0) = true := by rw [bne_iff_ne]; omega
    generalize l.length = ll at *
    clear hu hr hm
    go_enter Try.func14, Try.ntmps14
    go_wp2_with fail
    refine (HFC.out).mono ?_
    rintro e w1 ⟨rfl, hb1⟩
    have HB1 := Lib.hid hb1
    clear hb1
    go_wp2_with fail
    refine bodyPost_ret (v := .tuple #[.slice none 0 0, .int .i64 (ck : Int)]) (by simp [results, Try.results14, go_sem]) rfl ⟨HB1.out, ?_⟩
    rw [HRE.out]
  have h0 : Sh.check l = 0 := Classical.not_not.1 h0
  rw [h0] at HFC
  obtain ⟨k, hk, hf, ho, h12⟩ := Sh.check_form h0
  have hlen : l.length = 1 + Sh.size k := by rw [← hf, Sh.flat_length]; rfl
  obtain ⟨b, off, rfl, -⟩ := hu (by intro e; rw [e] at hlen; simp at hlen; omega)
  have hfs := form_small h0
  rw [Sh.formK_is hf] at hfs
  have HU := Lib.hid (fun W (hb : Below w.heap.size w W) => show Fds W w.heap.size (some ⟨b, off, none⟩) (Sh.flat (.cons 0 k .nil)) by rw [hf]; exact hu.below hb)
  have HNR := Lib.hid (fun W (hb : Below w.heap.size w W) => hr.below hb)
  obtain ⟨L, hL⟩ : ∃ L, L = lv1 k := ⟨_, rfl⟩
  have HL := Lib.hid hL
  have HLO := Lib.hid (fun W (hb : Below w.heap.size w W) => show Calls Try.prog 28 #[.slice (some ⟨b, off, none⟩) l.length cap] W (fun e w' => e = .returned (.int .i64 (L : Nat)) ∧ W = w') by
    have := leavesOf_any (some ⟨b, off, none⟩) cap l W w.heap.size (by omega) (hu.below hb)
    rwa [show lvs l = L by rw [hL, ← hf, lvs_one]] at this)
  have HIN := Lib.hid (fun W (hb : Below w.heap.size w W) ia icap (r : List Nat) (a1 : r.length ≤ 64) (a2 : r.length ≤ icap) (a3 : icap ≤ maxLen) (a4 : ∀ n ∈ r, n < 18446744073709551616) (a5 : Nums W w.heap.size ia r) => show Calls Try.prog 29 #[.slice (some ⟨b, off, none⟩) l.length cap, .slice ia r.length icap, .int .i64 0, .int .i64 0, .int .i64 0] W (SPost W w.heap.size L (Sh.sIn k 0 0 0 r)) by
    have := inner_any k 0 0 0 0 b off cap w.heap.size ia icap r W (HU.out W hb) hb.size (by omega) hcm (by omega) (by omega) (by omega) ⟨by omega, ho.2.1, ho.2.2.1, trivial⟩ a1 a2 a3 a4 a5
    rw [← hlen, ← hL] at this
    exact this)
  have HRS := Lib.hid (show R = if 8 < m then .error 2 else Sh.sRecs k rs (List.replicate L []) by
    rw [HR.out]
    unfold Sh.shR
    rw [if_neg (by rw [h0]; simp), Sh.formK_is hf, ← hL, HM.out]
    by_cases h8 : 8 < rs.length
    · rw [if_pos h8, if_pos h8]
    · rw [if_neg h8, if_neg h8, Sh.sRecs_is k hk rs _ (by rw [List.length_replicate, hL])])
  have HK := Lib.hid hk
  have HL12 := Lib.hid hfs.2
  have hL9 : L ≤ 1000 := by omega
  generalize l.length = ll at *
  clear hu hr hm hlen hfs h0 ho h12 hL hk
  by_cases h8 : 8 < m
  · have h8I : (8 : Int) < (m : Int) := by omega
    have HRE := Lib.hid (HRS.out.trans (if_pos h8))
    go_enter Try.func14, Try.ntmps14
    go_wp2_with fail
    refine (HFC.out).mono ?_
    rintro e w1 ⟨rfl, hb1⟩
    have HB1 := Lib.hid hb1
    clear hb1
    go_wp2_with fail
    refine bodyPost_ret (v := .tuple #[.slice none 0 0, .int .i64 2]) (by simp [results, Try.results14, go_sem]) rfl ⟨HB1.out, ?_⟩
    rw [HRE.out]; rfl
  have h8I : ¬ (8 : Int) < (m : Int) := by omega
  have HRE := Lib.hid (HRS.out.trans (if_neg h8))
  clear HRS
  go_enter Try.func14, Try.ntmps14
  go_wp2_with fail
  refine (HFC.out).mono ?_
  rintro e w1 ⟨rfl, hb1⟩
  have HB1 := Lib.hid hb1
  clear hb1 HFC
  go_wp2_with fail
  refine (HLO.out w1 HB1.out).mono ?_
  rintro e w2 ⟨rfl, rfl⟩
  have HEM := Lib.hid (empty_any w1 L hL9)
  go_wp2_with fail
  refine (HEM.out).mono ?_
  rintro e w2 ⟨A, cp, rfl, hE, hbE⟩
  have HE := Lib.hid (hE.down HB1.out.size)
  have HB2 := Lib.hid (below_then HB1.out hbE)
  clear hE hbE HEM HLO
  go_wp2_with fail
  go_loopw [7, 8, 9, 10, 11] (fun out i _ _ _ wr => ∃ (j : Nat) (A : Option Addr) (cp : Nat) (acc : List (List Lv)), j ≤ m ∧ i = .int .i64 j ∧ out = .slice A L cp ∧ Below w.heap.size w wr ∧ Hid (COut wr w.heap.size (.slice A L cp) L acc) ∧ Hid (∀ i, (acc.getD i []).length ≤ 64 * j) ∧ Hid (R = Sh.sRecs k (rs.drop j) acc)) (fun _ i _ _ _ _ => m - (intOf i).toNat)
  case atStart => exact ⟨0, A, cp, _, Nat.zero_le _, rfl, rfl, HB2.out, HE, Lib.hid (fun i => by rw [Sh.rep_get]; exact Nat.zero_le _), Lib.hid (by rw [List.drop_zero]; exact HRE.out)⟩
  case round =>
    obtain ⟨j, A, cp, acc, hj, rfl, rfl, hbw, HCO, HAB, HRJ⟩ := hrel
    rename World => wr
    by_cases hlt : j < m
    · have hjI : (j : Int) < (m : Int) := by omega
      have hjr : j < rs.length := by rw [← HM.out]; exact hlt
      obtain ⟨bR, oR, qa, qc, rfl, hbR, q0, q1, q2, q3, q4⟩ := (HNR.out wr hbw).at hjr
      have HST := Lib.hid (show R = match Sh.sRec k (rs.getD j []) with | .error e => .error e | .ok D => Sh.sRecs k (rs.drop (j + 1)) (zipA acc D) by rw [HRJ.out, sRecs_step hjr])
      have HRI := Lib.hid (fun D (h : Sh.sRec k (rs.getD j []) = .ok D) => (Sh.sRec_is k HK.out (rs.getD j []) (List.replicate (lv1 k) []) List.length_replicate).2 D h)
      generalize rs.getD j [] = r at *
      obtain ⟨nr, hnr⟩ : ∃ n, n = r.length := ⟨_, rfl⟩
      rw [← hnr] at q0 q2
      have HNRL := Lib.hid hnr
      have HQ := Lib.hid (And.intro q1 (And.intro q3 q4))
      have HBW := Lib.hid hbw
      clear hjr hnr q1 q3 q4 hbw hbR
      by_cases h64 : 64 < nr
      · have h64I : (64 : Int) < (nr : Int) := by omega
        have HRN := Lib.hid (show R = .error 2 by rw [HST.out]; unfold Sh.sRec; rw [if_pos (by rw [← HNRL.out]; exact h64)])
        go_wp2_with fail
        refine bodyPost_ret (v := .tuple #[.slice none 0 0, .int .i64 2]) (by simp [results, Try.results14, go_sem]) rfl ⟨HBW.out, ?_⟩
        rw [HRN.out]; rfl
      have h64I : ¬ (64 : Int) < (nr : Int) := by omega
      have HC := Lib.hid (HIN.out wr HBW.out qa qc r (by rw [← HNRL.out]; omega) (by rw [← HNRL.out]; exact q2) HQ.out.2.1 HQ.out.2.2 HQ.out.1)
      rw [← HNRL.out] at HC
      have HSR := Lib.hid (show Sh.sRec k r = match Sh.sIn k 0 0 0 r with | none => .error 1 | some (D, l) => if l = [] then .ok D else .error 1 by unfold Sh.sRec; rw [if_neg (by rw [← HNRL.out]; exact h64)]; cases Sh.sIn k 0 0 0 r <;> rfl)
      generalize Sh.sIn k 0 0 0 r = X at *
      go_wp2_with fail
      refine (HC.out).mono ?_
      rintro e w3 ⟨hb3, hm3⟩
      have HB3 := Lib.hid (below_then HBW.out hb3)
      cases X with
      | none =>
        obtain rfl := hm3
        have HRN := Lib.hid (show R = .error 1 by rw [HST.out, HSR.out])
        clear hb3
        go_wp2_with fail
        refine bodyPost_ret (v := .tuple #[.slice none 0 0, .int .i64 1]) (by simp [results, Try.results14, go_sem]) rfl ⟨HB3.out, ?_⟩
        rw [HRN.out]; rfl
      | some x =>
        obtain ⟨D, ls'⟩ := x
        obtain ⟨A3, cp3, a3, c3, rfl, hC3, hN3, -⟩ := hm3
        cases ls' with
        | cons z t =>
          have HRN := Lib.hid (show R = .error 1 by rw [HST.out, HSR.out]; simp)
          have hzI : (0 : Int) < (t.length : Int) + 1 := by omega
          clear hb3 hC3 hN3
          simp only [List.length_cons]
          go_wp2_with fail
          refine bodyPost_ret (v := .tuple #[.slice none 0 0, .int .i64 1]) (by simp [results, Try.results14, go_sem]) rfl ⟨HB3.out, ?_⟩
          rw [HRN.out]; rfl
        | nil =>
          have HSD := Lib.hid (show Sh.sRec k r = .ok D by rw [HSR.out]; simp)
          have HRN := Lib.hid (show R = Sh.sRecs k (rs.drop (j + 1)) (zipA acc D) by rw [HST.out, HSD.out])
          obtain ⟨hd1, hd2⟩ := HRI.out D HSD.out
          have HAB2 := Lib.hid (show ∀ i, ((zipA acc D).getD i []).length ≤ 64 * (j + 1) from fun i => by
            rw [Sh.zipA_get _ _ (by rw [HCO.out.1, hd1, HL.out]), List.length_append]
            have := HAB.out i; have := hd2 i; omega)
          have HJ := Lib.hid (join_any w3 w.heap.size wr.heap.size L (.slice A L cp) (.slice A3 L cp3) acc D (HCO.out.next hb3) hC3 hL9 (fun i => by have := HAB.out i; have := hd2 i; omega))
          clear hb3 hC3 hN3 hd1 hd2
          simp only [List.length_nil]
          go_wp2_with fail
          refine (HJ.out).mono ?_
          rintro e w4 ⟨A4, cp4, rfl, hC4, hb4⟩
          have HC4 := Lib.hid (hC4.down HB3.out.size)
          have HB4 := Lib.hid (below_then HB3.out hb4)
          clear hC4 hb4
          go_wp2_with fail
          exact ⟨⟨j + 1, A4, cp4, zipA acc D, by omega, by go_num, rfl, HB4.out, HC4, HAB2, HRN⟩, by simp [intOf]; omega⟩
    · obtain rfl : j = m := by omega
      have hjI : ¬ (j : Int) < (j : Int) := by omega
      have HRF := Lib.hid (show R = .ok acc by rw [HRJ.out, List.drop_eq_nil_of_le (by rw [← HM.out]; exact Nat.le_refl _)]; rfl)
      have HBW := Lib.hid hbw
      clear hbw
      go_wp2_with fail
      refine bodyPost_ret (v := .tuple #[.slice A L cp, .int .i64 0]) (by simp [results, Try.results14, go_sem]) rfl ⟨HBW.out, ?_⟩
      rw [HRF.out]
      have h1 := HCO.out.1
      show ∃ A' cp', _ ∧ _
      rw [h1]
      exact ⟨A, cp, rfl, HCO.out⟩
end Go.Proofs.Ytjfkoledbegpfaa
