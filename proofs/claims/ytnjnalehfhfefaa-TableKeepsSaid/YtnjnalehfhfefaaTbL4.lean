/- The walk of TableKeeps. -/
import Derived.Test.YtnjnalehfhfefaaTbL0
import Derived.Test.YtnjnalehfhfefaaTbB
import Derived.Test.YtnjnalehfhfefaaOCd
import Derived.Test.YtnjnalehfhfefaaDrawJ
import Derived.Test.YtnjnalehfhfefaaTbLawK
namespace Go.Proofs.Ytnjnalehfhfefaa
open Go.RowKit
set_option linter.unusedVariables false

theorem grown_set2 (w : World) (g : Nat) (u v : Value) : w.grownBy ((w.setCell ⟨g, 0, none⟩ u).setCell ⟨g, 1, none⟩ v) (some g) :=
  ⟨rfl, rfl, rfl, by simp, fun k hk hne => by
    have : k ≠ g := fun e => hne (by rw [e])
    rw [heap_set _ _ _ _ (by simpa using this), heap_set _ _ _ _ (by simpa using this)]⟩
theorem tcop_any (op : Int) (w : World) : Calls Try.prog 38 #[.int .i64 op] w (fun e w' => e = .returned (.agg #[.int .i64 op, .int .i64 0, .int .i64 0, .int .u64 0, .string ⟨#[]⟩]) ∧ Below w.heap.size w w') := by
  have q0 := pen_new w (.int .i64 0) (.int .i64 0) (.int .i64 0) (.int .u64 0) (.string ByteArray.empty)
  go_enter Try.func38, Try.ntmps38
  go_wp2_with fail
  refine bodyPost_ret (v := .agg #[.int .i64 op, .int .i64 0, .int .i64 0, .int .u64 0, .string ⟨#[]⟩]) (by simp [results, Try.results38, go_sem]) rfl ⟨rfl, ?_⟩
  exact (Below.refl _ _).alloc (Nat.le_refl _) _
theorem tkeep_len {t : Tb.T} {p : List O.Cd} {a : Tb.T} (h : Tb.chg t (Tb.keepE t p) (Tb.keep t p) = (a, 0)) : p.length ≤ 16 := by
  rcases Tb.chg_or t (Tb.keepE t p) (Tb.keep t p) with ⟨h1, _⟩ | ⟨_, h2, _⟩
  · rw [h] at h1; exact absurd rfl h1
  · exact (O.tree h2).1
def andC : O.Cd := ⟨5, 0, C.null⟩
def TabIt (x : Tb.T) (F : Value → Value) : Value → (Nat → Prop) → World → Prop := fun v _ w => ∃ ra rc rd re, v = F (tag ra x.cols.length rc rd x.data.length re) ∧ Tbl w w.heap.size ra rc rd re x
def okT (u : Value) : Value := .tuple #[u, .int .i64 0]
theorem cds_news2 {w : World} {B : Nat} {A : Option Addr} {l : List O.Cd} (h : Cds w B A l) : ∀ ad, A = some ad → ∀ j u, (l.flatMap dv)[j]? = some u → w.cell? (ad.add j) = some u := by
  intro ad ha j u hj
  by_cases h0 : l = []
  · subst h0; simp at hj
  · obtain ⟨b, off, e, _, hc⟩ := h h0
    rw [ha] at e
    have := Option.some.inj e
    subst this
    exact cds_news (B := 0) hc j u hj
theorem dv_one (l : List O.Cd) : ∀ u ∈ l.flatMap dv, u.oneCell' = true := by
  intro u hu
  obtain ⟨x, _, hx⟩ := List.mem_flatMap.1 hu
  simp [dv] at hx
  rcases hx with rfl | rfl | rfl | rfl | rfl <;> rfl
theorem dv_len (l : List O.Cd) : (l.flatMap dv).length = l.length * 5 := fm_len (f := dv) (n := 5) (fun _ => rfl) l
def condZ : Value := .agg #[.int .i64 0, .int .i64 0, .int .i64 0, .int .u64 0, .string ByteArray.empty]
theorem cnd_next {w w' : World} {b : Nat} {c : O.Cd} (h : w.heap[b]? = some (.cells #[.int .i64 c.op, .int .i64 c.col, .int .i64 c.c.kind, .int .u64 (c.c.num : Int), .string (str c.c.txt)] 59 (0, 0))) (hb : w'.heap[b]? = w.heap[b]?) : Cds w' w'.heap.size (some ⟨b, 0, none⟩) [c] := cds_one' (hb.trans h)
def kpTb (B : Nat) (T P Q : Value) (p q : List O.Cd) (x : Tb.T) : List Item := [
  itC 73 T,
  itR 74 (some 3) (RowIt B 59 5 0 []),
  itC 75 P,
  itR 76 (some 5) (RowIt B 59 5 (0 + p.length) ([] ++ p.flatMap dv)),
  itC 77 Q,
  itR 78 (some 8) (RowIt B 59 5 (0 + p.length + q.length) ([] ++ p.flatMap dv ++ q.flatMap dv)),
  itC 79 (.agg (dv andC).toArray),
  itR 80 none (fun v S w => ∃ g, v = .slice (some ⟨g, 0, none⟩) 1 1 ∧ Cds w w.heap.size (some ⟨g, 0, none⟩) [andC]),
  itR 81 none (RowIt B 59 5 (0 + p.length + q.length + 1) ([] ++ p.flatMap dv ++ q.flatMap dv ++ [andC].flatMap dv)),
  ⟨some 82, some 10, fun v => ∃ u, v = okT u, TabIt x okT, []⟩,
  ⟨some 72, some 11, fun v => ∃ u, v = okT u, TabIt x okT, []⟩,
  itR 83 (some 14) (TabIt x id),
  itC 84 (.int .i64 0),
  itR 15 (some 14) (fun v S w => ∃ g, v = .pointer (some ⟨g, 0, none⟩) ∧ S g ∧ Two w g 25 (.slice none 0 0) (.slice none 0 0)),
  ⟨some 15, none, fun _ => True, fun v S w => ∃ g ra rc rd re, v = .pointer (some ⟨g, 0, none⟩) ∧ Two w g 25 (.slice ra x.cols.length rc) (.slice rd x.data.length re) ∧ Tbl w w.heap.size ra rc rd re x, [13]⟩,
  itC 16 (.int .i64 0)]
set_option maxHeartbeats 4000000 in
set_option maxRecDepth 100000 in
theorem tableKeeps_walk (w : World) (ca : Option Addr) (cc : Nat) (da : Option Addr) (dc : Nat) (t : Tb.T) (ht : Tbl w w.heap.size ca cc da dc t) (ap : Option Addr) (cp : Nat) (p : List O.Cd) (hpm : p.length ≤ maxLen) (hpq : p.length ≤ cp ∧ cp ≤ maxLen ∧ (ap = none → cp = 0)) (hpx : ∀ x ∈ p, dOk x) (hpu : Cds w w.heap.size ap p) (aq : Option Addr) (cq : Nat) (q : List O.Cd) (hqm : q.length ≤ maxLen) (hqq : q.length ≤ cq ∧ cq ≤ maxLen ∧ (aq = none → cq = 0)) (hqx : ∀ x ∈ q, dOk x) (hqu : Cds w w.heap.size aq q) :
    Calls Try.prog 7 #[tag ca t.cols.length cc da t.data.length dc, .slice ap p.length cp, .slice aq q.length cq] w (BoolPost true w) := by
  have a0 : Below w.heap.size w (w.alloc (.cells #[.slice ca t.cols.length cc, .slice da t.data.length dc] 25)) := (Below.refl _ _).alloc (Nat.le_refl _) _
  have HP := Lib.hid (two_new w 25 (.slice ca t.cols.length cc) (.slice da t.data.length dc))
  have HUP := Lib.hid (ht.next a0)
  have HCP := Lib.hid (hpu.next at5_firm a0)
  have HCQ := Lib.hid (hqu.next at5_firm a0)
  have HL := Lib.hid (Tb.keeps_law t p q)
  have HPL := Lib.hid (fun a => @tkeep_len t p a)
  have HQL := Lib.hid (fun a => @tkeep_len t q a)
  have HB0 := Lib.hid a0
  have b_P := Below.refl (w.alloc (.cells #[.slice ca t.cols.length cc, .slice da t.data.length dc] 25)).heap.size (w.alloc (.cells #[.slice ca t.cols.length cc, .slice da t.data.length dc] 25))
  clear ht hpu hqu
  clear a0
  go_enter Try.func7, Try.ntmps7
  go_upto_region 1 with fail
  generalize w.alloc (.cells #[.slice ca t.cols.length cc, .slice da t.data.length dc] 25) = W0 at *
  have cP0 := (HP.out.next b_P).c0
  have cP1 := (HP.out.next b_P).c1
  go_wp2_with fail
  refine (tKeep_any ca cc da dc t ap cp p _ (HUP.out.next b_P) hpm hpx (HCP.out.next at5_firm b_P)).mono ?_
  generalize Tb.chg t (Tb.keepE t p) (Tb.keep t p) = r at HL HPL ⊢
  obtain ⟨r1, r2⟩ := r
  rintro e w1 ⟨raA, rcA, rdA, reA, rfl, hf, hbn⟩
  have hal : Below w1.heap.size w1 (w1.alloc (.cells #[.slice raA r1.cols.length rcA, .slice rdA r1.data.length reA] 25)) := (Below.refl _ _).alloc (Nat.le_refl _) _
  have HUA := Lib.hid (hf.tbl.next hal)
  have hbn := below_then hbn hal
  have HA := two_new w1 25 (.slice raA r1.cols.length rcA) (.slice rdA r1.data.length reA)
  obtain ⟨GA, hG⟩ : ∃ G, G = w1.heap.size := ⟨_, rfl⟩
  rw [← hG] at HA
  have HA := Lib.hid HA
  have b_P := below_then b_P hbn
  clear hf hal hbn cP0 cP1
  go_upto_region 2 with fail
  rw [← hG]
  generalize w1.alloc (.cells #[.slice raA r1.cols.length rcA, .slice rdA r1.data.length reA] 25) = W1 at *
  clear hG
  have b_A := Below.refl W1.heap.size W1
  go_wp2_with fail
  refine (tbegun_any _).mono ?_
  rintro e w2 ⟨rfl, hbn⟩
  have b_P := below_then b_P hbn
  have b_A := below_then b_A hbn
  clear hbn
  rcases HL.out with ⟨hne, rfl⟩ | ⟨a, hra, e1, hoka, hrest⟩
  · have hne : r2 ≠ 0 := hne
    have g0 : ((r2 : Int) != 0) = true := by rw [bne_iff_ne]; omega
    have cA0 := (HA.out.next b_A).c0
    have cA1 := (HA.out.next b_A).c1
    go_wp2_with fail
    refine (stab_true (HUA.out.next b_A) (Tbl.null _ _) small_nul).mono ?_
    rintro e w3 ⟨rfl, hbn⟩
    have b_P := below_then b_P hbn
    have b_A := below_then b_A hbn
    clear hbn
    go_wp2_with fail
    go_ret
    exact ⟨rfl, below_then HB0.out b_P⟩
  obtain ⟨rfl, rfl⟩ : r1 = a ∧ r2 = 0 := by simpa using hra
  clear HL hra
  have cA0 := (HA.out.next b_A).c0
  have cA1 := (HA.out.next b_A).c1
  have hcon := tKeep_any raA rcA rdA reA r1 ap cp p w2 (HUA.out.next b_A) hpm hpx (HCP.out.next at5_firm b_P)
  rw [e1] at hcon
  go_wp2_with fail
  refine (hcon).mono ?_
  clear hcon
  rintro e w3 ⟨raX, rcX, rdX, reX, rfl, hf, hbn⟩
  have HGX0 := Lib.hid (below_then b_P hbn).size
  have hal : Below w3.heap.size w3 (w3.alloc (.cells #[.slice raX r1.cols.length rcX, .slice rdX r1.data.length reX] 25)) := (Below.refl _ _).alloc (Nat.le_refl _) _
  have HUX := Lib.hid (hf.tbl.next hal)
  have hbn := below_then hbn hal
  have HX := two_new w3 25 (.slice raX r1.cols.length rcX) (.slice rdX r1.data.length reX)
  obtain ⟨GX, hG⟩ : ∃ G, G = w3.heap.size := ⟨_, rfl⟩
  rw [← hG] at HX
  have HGX := Lib.hid (show W0.heap.size ≤ GX by rw [hG]; exact HGX0.out)
  have HX := Lib.hid HX
  have b_P := below_then b_P hbn
  have b_A := below_then b_A hbn
  clear hf hal hbn cA0 cA1
  go_upto_region 7 with fail
  rw [← hG]
  generalize w3.alloc (.cells #[.slice raX r1.cols.length rcX, .slice rdX r1.data.length reX] 25) = W3 at *
  clear hG
  have b_X := Below.refl W3.heap.size W3
  clear e1
  have cX0 := (HX.out.next b_X).c0
  have cX1 := (HX.out.next b_X).c1
  have cA0 := (HA.out.next b_A).c0
  have cA1 := (HA.out.next b_A).c1
  go_wp2_with fail
  refine (stab_true (HUX.out.next b_X) (HUA.out.next b_A) hoka.small).mono ?_
  rintro e w4 ⟨rfl, hbn⟩
  have b_P := below_then b_P hbn
  have b_A := below_then b_A hbn
  have b_X := below_then b_X hbn
  clear hbn
  clear cX0 cX1 cA0 cA1
  have cP0 := (HP.out.next b_P).c0
  have cP1 := (HP.out.next b_P).c1
  go_wp2_with fail
  refine (tKeep_any ca cc da dc t aq cq q _ (HUP.out.next b_P) hqm hqx (HCQ.out.next at5_firm b_P)).mono ?_
  generalize Tb.chg t (Tb.keepE t q) (Tb.keep t q) = rq at hrest HQL ⊢
  obtain ⟨q1, q2⟩ := rq
  rintro e w5 ⟨raB, rcB, rdB, reB, rfl, hf, hbn⟩
  have HFB := Lib.hid hf
  have hbsz := hbn.size
  have HNB := Lib.hid (show GX < w4.heap.size from Nat.lt_of_lt_of_le HX.out.lt b_X.size)
  have hal : Below w5.heap.size w5 (w5.alloc (.cells #[.slice raB q1.cols.length rcB, .slice rdB q1.data.length reB] 25)) := (Below.refl _ _).alloc (Nat.le_refl _) _
  have hbsz2 := hal.size
  have HAL5 := Lib.hid hal
  have HUB := Lib.hid (hf.tbl.next hal)
  have hbn := below_then hbn hal
  have HB := two_new w5 25 (.slice raB q1.cols.length rcB) (.slice rdB q1.data.length reB)
  obtain ⟨GB, hG⟩ : ∃ G, G = w5.heap.size := ⟨_, rfl⟩
  rw [← hG] at HB
  have HGB := Lib.hid (show GX < GB by rw [hG]; exact Nat.lt_of_lt_of_le HNB.out (Nat.le_trans (Nat.le_refl _) hbsz))
  have HB := Lib.hid HB
  have b_P := below_then b_P hbn
  have b_A := below_then b_A hbn
  have b_X := below_then b_X hbn
  clear hf hal hbn cP0 cP1
  go_upto_region 10 with fail
  rw [← hG]
  generalize w5.alloc (.cells #[.slice raB q1.cols.length rcB, .slice rdB q1.data.length reB] 25) = W5 at *
  clear hG
  have b_B := Below.refl W5.heap.size W5
  rcases hrest with hne | ⟨b, hrb, hrest⟩
  · have hne : q2 ≠ 0 := hne
    have g0 : ((q2 : Int) != 0) = true := by rw [bne_iff_ne]; omega
    go_wp2_with fail
    go_ret
    exact ⟨rfl, below_then HB0.out b_P⟩
  obtain ⟨rfl, rfl⟩ : q1 = b ∧ q2 = 0 := by simpa using hrb
  clear hrb
  have hpl := HPL.out _ rfl
  have hql := HQL.out _ rfl
  have g5 : IntKind.i64.wrap ((p.length : Int) + (q.length : Int)) = (p.length : Int) + (q.length : Int) := by rw [IntKind.wrap_i64]; omega
  by_cases hbig : 16 ≤ p.length + q.length
  · have g6 : decide ((16 : Int) ≤ (p.length : Int) + (q.length : Int)) = true := decide_eq_true (by omega)
    go_wp2_with fail
    go_ret
    exact ⟨rfl, below_then HB0.out b_P⟩
  have g6 : decide ((16 : Int) ≤ (p.length : Int) + (q.length : Int)) = false := decide_eq_false (by omega)
  obtain ⟨x, e2, e3, e4, hokx⟩ := hrest (by omega)
  clear hrest
  have cA0 := (HA.out.next b_A).c0
  have cA1 := (HA.out.next b_A).c1
  have hcon := tKeep_any raA rcA rdA reA r1 aq cq q W5 (HUA.out.next b_A) hqm hqx (HCQ.out.next at5_firm b_P)
  rw [e2] at hcon
  clear e2
  go_wp2_with fail
  refine hcon.mono ?_
  clear hcon cA0 cA1
  rintro e w6 ⟨ra2, rc2, rd2, re2, rfl, hf, hbn⟩
  have kX := HX.out.next (below_then b_X hbn)
  have hgX : GX < W5.heap.size := Nat.lt_of_lt_of_le HX.out.lt b_X.size
  have HUX2 := Lib.hid (ftab_set hf hgX (Nat.le_refl _) (.slice ra2 x.cols.length rc2) (.slice rd2 x.data.length re2)).tbl
  have k0 := kX.s0 (.slice ra2 x.cols.length rc2)
  have HX2 := Lib.hid (k0.s1 (.slice rd2 x.data.length re2))
  have f0 := kX.free 0
  have f1 := k0.free 1
  have c0 := kX.c0
  have c1 := k0.c1
  have hb_P := below_then b_P hbn
  have hXP := HGX.out
  have hb_P := (hb_P.setCell (p := ⟨GX, 0, none⟩) hXP (.slice ra2 x.cols.length rc2)).setCell (p := ⟨GX, 1, none⟩) hXP (.slice rd2 x.data.length re2)
  have hb_B := below_then b_B hbn
  have HB2 := Lib.hid (((HB.out.next hb_B).grown (row := some GX) (w' := (w6.setCell ⟨GX, 0, none⟩ (.slice ra2 x.cols.length rc2)).setCell ⟨GX, 1, none⟩ (.slice rd2 x.data.length re2)) (grown_set2 _ _ _ _) (by have := HGB.out; intro e; have := Option.some.inj e; omega)))
  have HUB2 := Lib.hid (HFB.out ((w6.setCell ⟨GX, 0, none⟩ (.slice ra2 x.cols.length rc2)).setCell ⟨GX, 1, none⟩ (.slice rd2 x.data.length re2)) (fun z hz1 hz2 => by have := HNB.out; rw [heap_set _ _ _ _ (by simp; omega), heap_set _ _ _ _ (by simp; omega)]; exact (hb_B.block z (Nat.lt_of_lt_of_le hz2 hbsz2)).trans (HAL5.out.block z hz2)) (by simp; exact Nat.le_trans hbsz2 hb_B.size))
  clear hf kX k0 hbn hb_B b_X b_A b_B b_P
  have b_P := hb_P
  clear hb_P
  go_upto_region 13 with fail
  generalize (w6.setCell ⟨GX, 0, none⟩ (.slice ra2 x.cols.length rc2)).setCell ⟨GX, 1, none⟩ (.slice rd2 x.data.length re2) = V at *
  clear f0 f1 c0 c1
  have HB := HB2
  have HUB := HUB2
  have HX := HX2
  have HUX := HUX2
  clear HB2 HUB2 HX2 HUX2
  have b_B := Below.refl V.heap.size V
  have b_X := Below.refl V.heap.size V
  have cB0 := (HB.out.next b_B).c0
  have cB1 := (HB.out.next b_B).c1
  have hcon := tKeep_any raB rcB rdB reB q1 ap cp p V (HUB.out.next b_B) hpm hpx (HCP.out.next at5_firm b_P)
  rw [e3] at hcon
  go_wp2_with fail
  refine (hcon).mono ?_
  clear hcon
  rintro e w7 ⟨raY, rcY, rdY, reY, rfl, hf, hbn⟩
  have hal : Below w7.heap.size w7 (w7.alloc (.cells #[.slice raY x.cols.length rcY, .slice rdY x.data.length reY] 25)) := (Below.refl _ _).alloc (Nat.le_refl _) _
  have HUY := Lib.hid (hf.tbl.next hal)
  have hbn := below_then hbn hal
  have HY := two_new w7 25 (.slice raY x.cols.length rcY) (.slice rdY x.data.length reY)
  obtain ⟨GY, hG⟩ : ∃ G, G = w7.heap.size := ⟨_, rfl⟩
  rw [← hG] at HY
  have HY := Lib.hid HY
  have b_P := below_then b_P hbn
  have b_X := below_then b_X hbn
  have b_B := below_then b_B hbn
  clear hf hal hbn cB0 cB1
  go_upto_region 14 with fail
  rw [← hG]
  generalize w7.alloc (.cells #[.slice raY x.cols.length rcY, .slice rdY x.data.length reY] 25) = W7 at *
  clear hG
  have b_Y := Below.refl W7.heap.size W7
  clear e3
  have hszP : w.heap.size < W7.heap.size := Nat.lt_of_lt_of_le HP.out.lt b_P.size
  have CP0 := (HP.out.next b_P).c0
  have CP1 := (HP.out.next b_P).c1
  have HTW := Lib.hid (HUP.out.next b_P)
  have HCPW := Lib.hid (HCP.out.next at5_firm b_P)
  have HCQW := Lib.hid (HCQ.out.next at5_firm b_P)
  have HPQ := Lib.hid hpq
  have HQQ := Lib.hid hqq
  have HPX := Lib.hid hpx
  have HQX := Lib.hid hqx
  have hncP : ap = none → cp = 0 ∧ p.length = 0 := fun e => by have := hpq.2.2 e; have := hpq.1; omega
  have hncQ : aq = none → cq = 0 ∧ q.length = 0 := fun e => by have := hqq.2.2 e; have := hqq.1; omega
  clear hpq hqq hpx hqx
  go_wp2_with fail
  refine wp_letter (fun a0 ha0 => ?_)
  have A1 : a0.eval (.tmp 1) = .slice ap p.length cp := by rw [ha0]; rfl
  have A2 : a0.eval (.tmp 2) = .slice aq q.length cq := by rw [ha0]; rfl
  have A3 : a0.eval (.tmp 3) = .pointer (some ⟨w.heap.size, 0, none⟩) := by rw [ha0]; rfl
  have hAS : a0.tmps.size = 105 := by rw [ha0]; rfl
  have HA0 := Lib.hid ha0
  clear ha0
  refine wp_region_inv (by kernel_rfl) (by kernel_rfl) (StJ (kpTb W7.heap.size (tag ca t.cols.length cc da t.data.length dc) (.slice ap p.length cp) (.slice aq q.length cq) p q x) (fun _ => False) W7 [73, 74, 75, 76, 77, 78, 79, 80, 81, 82, 72, 83, 84, 15, 16]) (fun L hL0 => ⟨_, _, _, (upd_none a0).symm, St.start (Nat.le_refl _) (Kept.drew_ _) (fun i hi => hL0 i hi)⟩) ?hs ?hend
  case hs =>
    refine steps_cons (fun L a wx hJ hL haft K hK => ?_) ?_
    · obtain ⟨f, own, val, rfl, H⟩ := hJ
      refine wanted_step rfl ?_
      have e3 := (H.ev0 3 (by decide)).trans A3
      have c0 := (H.kept.cell (o := 0) hszP (fun h => h)).trans CP0
      have c1 := (H.kept.cell (o := 1) hszP (fun h => h)).trans CP1
      refine wp_of_run (w' := wx) (v := tag ca t.cols.length cc da t.data.length dc) ?_ (hK _ _ (H.quiet (i := 0) (show 0 < 16 by decide) hL (fun d h => by cases h; decide) (by kernel_rfl) (fun j hj => absurd hj List.not_mem_nil) _ (fun s h => Or.inl (by cases h; rfl)) rfl (fun _ _ => trivial) (Or.inr rfl)))
      have qf : ∀ n, (upd a0 f).eval (.func n) = .func (.func n) #[] #[] := fun _ => rfl
      have qc : ∀ v, (upd a0 f).eval (.const v) = v := fun _ => rfl
      generalize (upd a0 f).eval = ev at *
      go_simp
    refine steps_cons (fun L a wx hJ hL haft K hK => ?_) ?_
    · obtain ⟨f, own, val, rfl, H⟩ := hJ
      refine wanted_step rfl ?_
      refine wp_of_run (w' := wx.alloc (.cells #[] 59)) (v := .slice (some ⟨wx.heap.size, 0, none⟩) 0 0) ?_ (hK _ _ (H.make (i := 1) (show 1 < 16 by decide) hL (fun d h => by cases h; decide) (by kernel_rfl) (fun j hj => absurd hj List.not_mem_nil) _ (fun s h => Or.inl (by cases h; rfl)) _ ((Below.refl _ _).alloc (Nat.le_refl _) _) trivial (RowIt.obj (row_empty _ _ _ _ H.kept.size) ⟨Nat.le_refl _, by simp⟩) (Or.inr rfl)))
      have qf : ∀ n, (upd a0 f).eval (.func n) = .func (.func n) #[] #[] := fun _ => rfl
      have qc : ∀ v, (upd a0 f).eval (.const v) = v := fun _ => rfl
      generalize (upd a0 f).eval = ev at *
      go_simp
    refine steps_cons (fun L a wx hJ hL haft K hK => ?_) ?_
    · obtain ⟨f, own, val, rfl, H⟩ := hJ
      refine wanted_step rfl ?_
      have e1 := (H.ev0 1 (by decide)).trans A1
      refine wp_of_run (w' := wx) (v := .slice ap p.length cp) ?_ (hK _ _ (H.quiet (i := 2) (show 2 < 16 by decide) hL (fun d h => by cases h; decide) (by kernel_rfl) (fun j hj => absurd hj List.not_mem_nil) _ (fun s h => Or.inl (by cases h; rfl)) rfl (fun _ _ => trivial) (Or.inr rfl)))
      have qf : ∀ n, (upd a0 f).eval (.func n) = .func (.func n) #[] #[] := fun _ => rfl
      have qc : ∀ v, (upd a0 f).eval (.const v) = v := fun _ => rfl
      generalize (upd a0 f).eval = ev at *
      go_simp
    refine steps_cons (fun L a wx hJ hL haft K hK => ?_) ?_
    · obtain ⟨f, own, val, rfl, H⟩ := hJ
      refine wanted_step rfl ?_
      have ex := (H.ev 2 75 (show 2 < 16 by decide) (haft ⟨2, .data⟩ (by simp) rfl) rfl (by rw [hAS]; decide)).trans (H.pur 2 (show 2 < 16 by decide) (haft ⟨2, .data⟩ (by simp) rfl))
      have hbw := H.kept.below (B := W7.heap.size) (fun k h => h.elim) (Nat.le_refl _)
      exact H.app (i := 3) 1 74 (show 1 < 16 by decide) (haft ⟨1, .data⟩ (by simp) rfl) rfl rfl (by rw [hAS]; decide) rfl (show 3 < 16 by decide) hL (fun d h => by cases h; decide) (by kernel_rfl) (fun j hj => absurd hj List.not_mem_nil) (fun s h => by cases h; rfl) _ 48 rfl condZ 48 Try.underlying48 info_cond rfl (by decide) ap p.length cp (p.flatMap dv) (dv_len p) ex hncP (cds_news2 (HCPW.out.next at5_firm hbw)) (dv_one _) (by unfold maxLen; omega) (by omega) H.kept.size (Nat.le_refl _) rfl (fun _ => trivial) hK
    refine steps_cons (fun L a wx hJ hL haft K hK => ?_) ?_
    · obtain ⟨f, own, val, rfl, H⟩ := hJ
      refine wanted_step rfl ?_
      have e1 := (H.ev0 2 (by decide)).trans A2
      refine wp_of_run (w' := wx) (v := .slice aq q.length cq) ?_ (hK _ _ (H.quiet (i := 4) (show 4 < 16 by decide) hL (fun d h => by cases h; decide) (by kernel_rfl) (fun j hj => absurd hj List.not_mem_nil) _ (fun s h => Or.inl (by cases h; rfl)) rfl (fun _ _ => trivial) (Or.inr rfl)))
      have qf : ∀ n, (upd a0 f).eval (.func n) = .func (.func n) #[] #[] := fun _ => rfl
      have qc : ∀ v, (upd a0 f).eval (.const v) = v := fun _ => rfl
      generalize (upd a0 f).eval = ev at *
      go_simp
    refine steps_cons (fun L a wx hJ hL haft K hK => ?_) ?_
    · obtain ⟨f, own, val, rfl, H⟩ := hJ
      refine wanted_step rfl ?_
      have ex := (H.ev 4 77 (show 4 < 16 by decide) (haft ⟨4, .data⟩ (by simp) rfl) rfl (by rw [hAS]; decide)).trans (H.pur 4 (show 4 < 16 by decide) (haft ⟨4, .data⟩ (by simp) rfl))
      have hbw := H.kept.below (B := W7.heap.size) (fun k h => h.elim) (Nat.le_refl _)
      exact H.app (i := 5) 3 76 (show 3 < 16 by decide) (haft ⟨3, .data⟩ (by simp) rfl) rfl rfl (by rw [hAS]; decide) rfl (show 5 < 16 by decide) hL (fun d h => by cases h; decide) (by kernel_rfl) (fun j hj => absurd hj List.not_mem_nil) (fun s h => by cases h; rfl) _ 48 rfl condZ 48 Try.underlying48 info_cond rfl (by decide) aq q.length cq (q.flatMap dv) (dv_len q) ex hncQ (cds_news2 (HCQW.out.next at5_firm hbw)) (dv_one _) (by unfold maxLen; omega) (by omega) H.kept.size (Nat.le_refl _) rfl (fun _ => trivial) hK
    refine steps_cons (fun L a wx hJ hL haft K hK => ?_) ?_
    · obtain ⟨f, own, val, rfl, H⟩ := hJ
      refine wanted_step rfl ?_
      refine wp_of_call (w1 := wx) ?_ (tcop_any 5 wx) (fun e w' he => ?_)
      · have qf : ∀ n, (upd a0 f).eval (.func n) = .func (.func n) #[] #[] := fun _ => rfl; have qc : ∀ v, (upd a0 f).eval (.const v) = v := fun _ => rfl; generalize (upd a0 f).eval = ev at *; go_simp
      obtain ⟨rfl, hb⟩ := he
      exact ⟨_, rfl, hK _ _ (H.make (i := 6) (show 6 < 16 by decide) hL (fun d h => by cases h; decide) (by kernel_rfl) (fun j hj => absurd hj List.not_mem_nil) _ (fun s h => Or.inl (by cases h; rfl)) w' hb rfl (fun _ _ _ => trivial) (Or.inr rfl))⟩
    refine steps_cons (fun L a wx hJ hL haft K hK => ?_) ?_
    · obtain ⟨f, own, val, rfl, H⟩ := hJ
      refine wanted_step rfl ?_
      have ex := (H.ev 6 79 (show 6 < 16 by decide) (haft ⟨6, .data⟩ (by simp) rfl) rfl (by rw [hAS]; decide)).trans (H.pur 6 (show 6 < 16 by decide) (haft ⟨6, .data⟩ (by simp) rfl))
      have hn := heap_alloc_new wx (.cells #[.int .i64 5, .int .i64 0, .int .i64 0, .int .u64 0, .string ⟨#[]⟩] 59)
      refine wp_of_run (w' := wx.alloc (.cells #[.int .i64 5, .int .i64 0, .int .i64 0, .int .u64 0, .string ⟨#[]⟩] 59)) (v := .slice (some ⟨wx.heap.size, 0, none⟩) 1 1) ?_ (hK _ _ (H.make (i := 7) (show 7 < 16 by decide) hL (fun d h => by cases h; decide) (by kernel_rfl) (fun j hj => absurd hj List.not_mem_nil) _ (fun s h => Or.inl (by cases h; rfl)) _ ((Below.refl _ _).alloc (Nat.le_refl _) _) trivial (fun W' h1 _ => ⟨_, rfl, cnd_next (c := andC) hn (h1 _ ⟨Nat.le_refl _, by simp⟩)⟩) (Or.inr rfl)))
      have ey : (upd a0 f).eval (.tmp 79) = .agg #[.int .i64 5, .int .i64 0, .int .i64 0, .int .u64 0, .string ⟨#[]⟩] := ex
      clear hn ex
      have qf : ∀ n, (upd a0 f).eval (.func n) = .func (.func n) #[] #[] := fun _ => rfl
      have qc : ∀ v, (upd a0 f).eval (.const v) = v := fun _ => rfl
      generalize (upd a0 f).eval = ev at *
      go_simp
    refine steps_cons (fun L a wx hJ hL haft K hK => ?_) ?_
    · obtain ⟨f, own, val, rfl, H⟩ := hJ
      refine wanted_step rfl ?_
      obtain ⟨g7, hv7, h7⟩ := (H.free 7 (show 7 < 16 by decide) (haft ⟨7, .data⟩ (by simp) rfl) rfl).now
      have ex := (H.ev 7 80 (show 7 < 16 by decide) (haft ⟨7, .data⟩ (by simp) rfl) rfl (by rw [hAS]; decide)).trans hv7
      have hbw := H.kept.below (B := W7.heap.size) (fun k h => h.elim) (Nat.le_refl _)
      exact H.app (i := 8) 5 78 (show 5 < 16 by decide) (haft ⟨5, .data⟩ (by simp) rfl) rfl rfl (by rw [hAS]; decide) rfl (show 8 < 16 by decide) hL (fun d h => by cases h; decide) (by kernel_rfl) (fun j hj => absurd hj List.not_mem_nil) (fun s h => by cases h; rfl) _ 48 rfl condZ 48 Try.underlying48 info_cond rfl (by decide) (some ⟨g7, 0, none⟩) 1 1 ([andC].flatMap dv) (dv_len [andC]) ex (fun e => by cases e) (cds_news2 h7) (dv_one _) (by unfold maxLen; omega) (by omega) H.kept.size (Nat.le_refl _) rfl (fun _ => trivial) hK
    refine steps_cons (fun L a wx hJ hL haft K hK => ?_) ?_
    · obtain ⟨f, own, val, rfl, H⟩ := hJ
      refine wanted_step rfl ?_
      have e73 := (H.ev 0 73 (show 0 < 16 by decide) (haft ⟨0, .data⟩ (by simp) rfl) rfl (by rw [hAS]; decide)).trans (H.pur 0 (show 0 < 16 by decide) (haft ⟨0, .data⟩ (by simp) rfl))
      obtain ⟨g8, c8, hv8, _, h8⟩ := (H.free 8 (show 8 < 16 by decide) (haft ⟨8, .data⟩ (by simp) rfl) rfl).now
      have e81 := (H.ev 8 81 (show 8 < 16 by decide) (haft ⟨8, .data⟩ (by simp) rfl) rfl (by rw [hAS]; decide)).trans hv8
      have hbw := H.kept.below (B := W7.heap.size) (fun k h => h.elim) (Nat.le_refl _)
      have hn8 : 0 + p.length + q.length + 1 = (p ++ q ++ [andC]).length := by simp; omega
      have hc8 : CdRow W7.heap.size (p ++ q ++ [andC]) (.slice (some ⟨g8, 0, none⟩) (p ++ q ++ [andC]).length c8) wx := by
        unfold CdRow
        rw [← hn8, List.flatMap_append, List.flatMap_append]
        exact h8
      obtain ⟨a8, c8', e8, hz8, hcd8⟩ := hc8.cds
      have hk8 := tKeep_any ca cc da dc t a8 c8' (p ++ q ++ [andC]) wx (HTW.out.next hbw) (by rw [← hn8]; unfold maxLen; omega) (by
        intro y hy
        simp only [List.mem_append, List.mem_singleton] at hy
        rcases hy with (hy | hy) | rfl
        · exact HPX.out y hy
        · exact HQX.out y hy
        · unfold dOk cOk; simp [maxLen, andC, C.null]) hcd8
      rw [show Tb.chg t (Tb.keepE t (p ++ q ++ [andC])) (Tb.keep t (p ++ q ++ [andC])) = (x, 0) from e4, ← e8, ← hn8] at hk8
      refine wp_of_call (w1 := wx) ?_ hk8 (fun e w' he => ?_)
      · clear hk8 hc8 hv8 h8 hn8; have qf : ∀ n, (upd a0 f).eval (.func n) = .func (.func n) #[] #[] := fun _ => rfl; have qc : ∀ v, (upd a0 f).eval (.const v) = v := fun _ => rfl; generalize (upd a0 f).eval = ev at *; go_simp
      obtain ⟨ra, rc, rd, re, rfl, hf, hb⟩ := he
      exact ⟨_, rfl, hK _ _ (H.make (i := 9) (show 9 < 16 by decide) hL (fun d h => by cases h; decide) (by kernel_rfl) (fun j hj => absurd hj List.not_mem_nil) _ (fun s h => Or.inl (by cases h; rfl)) w' hb ⟨_, rfl⟩ (fun W' h1 h2 => ⟨ra, rc, rd, re, rfl, hf W' (fun z hz1 hz2 => h1 z ⟨hz1, hz2⟩) h2⟩) (Or.inr rfl))⟩
    refine steps_cons (fun L a wx hJ hL haft K hK => ?_) ?_
    · obtain ⟨f, own, val, rfl, H⟩ := hJ
      refine wanted_step rfl ?_
      have ex := (H.ev 9 82 (show 9 < 16 by decide) (haft ⟨9, .data⟩ (by simp) rfl) rfl (by rw [hAS]; decide))
      refine wp_of_run (w' := wx) (v := val 9) ?_ (hK _ _ (H.pass 9 (show 9 < 16 by decide) (haft ⟨9, .data⟩ (by simp) rfl) rfl (i := 10) (show 10 < 16 by decide) hL (fun d h => by cases h; decide) (by kernel_rfl) (fun j hj => absurd hj List.not_mem_nil) _ (fun s h => Or.inl (by cases h; rfl)) (H.pur 9 (show 9 < 16 by decide) (haft ⟨9, .data⟩ (by simp) rfl)) (fun _ _ h => h) (Or.inr rfl)))
      have qf : ∀ n, (upd a0 f).eval (.func n) = .func (.func n) #[] #[] := fun _ => rfl
      have qc : ∀ v, (upd a0 f).eval (.const v) = v := fun _ => rfl
      generalize (upd a0 f).eval = ev at *
      go_simp
    refine steps_cons (fun L a wx hJ hL haft K hK => ?_) ?_
    · obtain ⟨f, own, val, rfl, H⟩ := hJ
      refine wanted_step rfl ?_
      obtain ⟨u, hu⟩ := (H.pur 10 (show 10 < 16 by decide) (haft ⟨10, .data⟩ (by simp) rfl))
      have ex := (H.ev 10 72 (show 10 < 16 by decide) (haft ⟨10, .data⟩ (by simp) rfl) rfl (by rw [hAS]; decide)).trans hu
      unfold okT at ex
      refine wp_of_run (w' := wx) (v := u) ?_ (hK _ _ (H.pass 10 (show 10 < 16 by decide) (haft ⟨10, .data⟩ (by simp) rfl) rfl (i := 11) (show 11 < 16 by decide) hL (fun d h => by cases h; decide) (by kernel_rfl) (fun j hj => absurd hj List.not_mem_nil) _ (fun s h => Or.inl (by cases h; rfl)) trivial (fun _ _ h => ?_) (Or.inr rfl)))
      · have qf : ∀ n, (upd a0 f).eval (.func n) = .func (.func n) #[] #[] := fun _ => rfl; have qc : ∀ v, (upd a0 f).eval (.const v) = v := fun _ => rfl; generalize (upd a0 f).eval = ev at *; go_simp
      · obtain ⟨ra, rc, rd, re, h1, h2⟩ := h
        rw [hu] at h1
        refine ⟨ra, rc, rd, re, ?_, h2⟩
        unfold okT at h1
        injection h1 with h1
        simpa using h1
    refine steps_cons (fun L a wx hJ hL haft K hK => ?_) ?_
    · obtain ⟨f, own, val, rfl, H⟩ := hJ
      refine wanted_step rfl ?_
      obtain ⟨u, hu⟩ := (H.pur 10 (show 10 < 16 by decide) (haft ⟨10, .data⟩ (by simp) rfl))
      have ex := (H.ev 10 72 (show 10 < 16 by decide) (haft ⟨10, .data⟩ (by simp) rfl) rfl (by rw [hAS]; decide)).trans hu
      unfold okT at ex
      refine wp_of_run (w' := wx) (v := .int .i64 0) ?_ (hK _ _ (H.quiet (i := 12) (show 12 < 16 by decide) hL (fun d h => by cases h; decide) (by kernel_rfl) (fun j hj => absurd hj List.not_mem_nil) _ (fun s h => Or.inl (by cases h; rfl)) rfl (fun _ _ => trivial) (Or.inr rfl)))
      have qf : ∀ n, (upd a0 f).eval (.func n) = .func (.func n) #[] #[] := fun _ => rfl
      have qc : ∀ v, (upd a0 f).eval (.const v) = v := fun _ => rfl
      generalize (upd a0 f).eval = ev at *
      go_simp
    refine steps_cons (fun L a wx hJ hL haft K hK => ?_) ?_
    · obtain ⟨f, own, val, rfl, H⟩ := hJ
      refine wanted_step rfl ?_
      have hn := two_new wx 25 (.slice none 0 0) (.slice none 0 0)
      refine wp_of_run (w' := wx.alloc (.cells #[.slice none 0 0, .slice none 0 0] 25)) (v := .pointer (some ⟨wx.heap.size, 0, none⟩)) ?_ (hK _ _ (H.make (i := 13) (show 13 < 16 by decide) hL (fun d h => by cases h; decide) (by kernel_rfl) (fun j hj => absurd hj List.not_mem_nil) _ (fun s h => Or.inl (by cases h; rfl)) _ ((Below.refl _ _).alloc (Nat.le_refl _) _) trivial (fun W' h1 _ => ⟨_, rfl, ⟨Nat.le_refl _, by simp⟩, (h1 _ ⟨Nat.le_refl _, by simp⟩).trans hn⟩) (Or.inr rfl)))
      clear hn
      have qf : ∀ n, (upd a0 f).eval (.func n) = .func (.func n) #[] #[] := fun _ => rfl
      have qc : ∀ v, (upd a0 f).eval (.const v) = v := fun _ => rfl
      generalize (upd a0 f).eval = ev at *
      go_simp
    refine steps_cons (fun L a wx hJ hL haft K hK => ?_) ?_
    · obtain ⟨f, own, val, rfl, H⟩ := hJ
      refine wanted_step rfl ?_
      obtain ⟨g, hv13, hs13, h2⟩ := (H.mine 13 14 (show 13 < 16 by decide) (haft ⟨13, .data⟩ (by simp) rfl) rfl hL).now
      have ho11 := (H.mine 11 14 (show 11 < 16 by decide) (haft ⟨11, .data⟩ (by simp) rfl) rfl hL)
      obtain ⟨ra, rc, rd, re, hv11, _⟩ := ho11.now
      have e15 := (H.ev 13 15 (show 13 < 16 by decide) (haft ⟨13, .data⟩ (by simp) rfl) rfl (by rw [hAS]; decide)).trans hv13
      have e83 : (upd a0 f).eval (.tmp 83) = tag ra x.cols.length rc rd x.data.length re := (H.ev 11 83 (show 11 < 16 by decide) (haft ⟨11, .data⟩ (by simp) rfl) rfl (by rw [hAS]; decide)).trans hv11
      have hg13 := h2.lt
      have c0 := h2.c0
      have f0 := h2.free 0
      have k1 := h2.s0 (.slice ra x.cols.length rc)
      have c1 := k1.c1
      have f1 := k1.free 1
      have k2 := k1.s1 (.slice rd x.data.length re)
      have al : ∀ e, (tab (kpTb W7.heap.size (tag ca t.cols.length cc da t.data.length dc) (.slice ap p.length cp) (.slice aq q.length cq) p q x) 13).cons = some e → L e = false := fun e h => by cases h; exact hL
      have al2 : ∀ e, (tab (kpTb W7.heap.size (tag ca t.cols.length cc da t.data.length dc) (.slice ap p.length cp) (.slice aq q.length cq) p q x) 11).cons = some e → L e = false := fun e h => by cases h; exact hL
      have hne : ∀ z, own 11 z → z ≠ g := fun z hz e => by
        have := H.dis 11 13 z (show 11 < 16 by decide) (show 13 < 16 by decide) (haft ⟨11, .data⟩ (by simp) rfl) (haft ⟨13, .data⟩ (by simp) rfl) al2 al hz (by rw [e]; exact hs13)
        cases this
      have hbl : ∀ z, z ≠ g → ((wx.setCell ⟨g, 0, none⟩ (.slice ra x.cols.length rc)).setCell ⟨g, 1, none⟩ (.slice rd x.data.length re)).heap[z]? = wx.heap[z]? := fun z hz => by
        rw [heap_set _ _ _ _ hz, heap_set _ _ _ _ hz]
      have hWg : W7.heap.size ≤ g := (H.rng 13 g (show 13 < 16 by decide) (haft ⟨13, .data⟩ (by simp) rfl) al hs13).2.elim id (fun h => h.elim)
      refine wp_of_skip (w' := (wx.setCell ⟨g, 0, none⟩ (.slice ra x.cols.length rc)).setCell ⟨g, 1, none⟩ (.slice rd x.data.length re)) ?_ (hK _ _ (H.turn 13 (show 13 < 16 by decide) (haft ⟨13, .data⟩ (by simp) rfl) rfl (i := 14) (show 14 < 16 by decide) hL (fun d h => by cases h) (by kernel_rfl) (fun j hj => by rw [List.mem_singleton.1 hj]; exact (haft ⟨13, .data⟩ (by simp) rfl)) (val 13) (fun s h => Or.inr (by cases h; exact H.slot 13 15 (show 13 < 16 by decide) (haft ⟨13, .data⟩ (by simp) rfl) rfl)) g hs13 _ (((Below.refl _ _).setCell (p := ⟨g, 0, none⟩) hWg _).setCell (p := ⟨g, 1, none⟩) hWg _) (fun z _ hz => hbl z hz) trivial (fun z => own 13 z ∨ own 11 z) (fun z hz => ?_) (fun W' h1 h2 => ?_) (Or.inl rfl)))
      · clear k2 ho11 hbl hne al al2
        unfold tag at e83
        have qf : ∀ n, (upd a0 f).eval (.func n) = .func (.func n) #[] #[] := fun _ => rfl; have qc : ∀ v, (upd a0 f).eval (.const v) = v := fun _ => rfl; generalize (upd a0 f).eval = ev at *; go_simp
      · rcases hz with hz | hz
        · exact ⟨by simpa using (H.rng 13 z (show 13 < 16 by decide) (haft ⟨13, .data⟩ (by simp) rfl) al hz).1, Or.inr (Or.inl hz)⟩
        · exact ⟨by simpa using (H.rng 11 z (show 11 < 16 by decide) (haft ⟨11, .data⟩ (by simp) rfl) al2 hz).1, Or.inr (Or.inr ⟨11, (show 11 < 16 by decide), (haft ⟨11, .data⟩ (by simp) rfl), rfl, hz⟩)⟩
      · obtain ⟨ra', rc', rd', re', hv', ht'⟩ := ho11 W' (fun z hz => (h1 z (Or.inr hz)).trans (hbl z (hne z hz))) (by simpa using h2)
        have h3 : tag ra x.cols.length rc rd x.data.length re = tag ra' x.cols.length rc' rd' x.data.length re' := hv11.symm.trans hv'
        exact ⟨g, ra, rc, rd, re, hv13, (h1 g (Or.inl hs13)).trans k2, by
          simp only [tag, Value.agg.injEq] at h3
          simp at h3
          obtain ⟨⟨rfl, rfl⟩, rfl, rfl⟩ := h3
          exact ht'⟩
    refine steps_cons (fun L a wx hJ hL haft K hK => ?_) ?_
    · obtain ⟨f, own, val, rfl, H⟩ := hJ
      refine wanted_step rfl ?_
      have ex := (H.ev 12 84 (show 12 < 16 by decide) (haft ⟨12, .data⟩ (by simp) rfl) rfl (by rw [hAS]; decide)).trans (H.pur 12 (show 12 < 16 by decide) (haft ⟨12, .data⟩ (by simp) rfl))
      refine wp_of_run (w' := wx) (v := .int .i64 0) ?_ (hK _ _ (H.quiet (i := 15) (show 15 < 16 by decide) hL (fun d h => by cases h; decide) (by kernel_rfl) (fun j hj => absurd hj List.not_mem_nil) _ (fun s h => Or.inl (by cases h; rfl)) rfl (fun _ _ => trivial) (Or.inr rfl)))
      have qf : ∀ n, (upd a0 f).eval (.func n) = .func (.func n) #[] #[] := fun _ => rfl
      have qc : ∀ v, (upd a0 f).eval (.const v) = v := fun _ => rfl
      generalize (upd a0 f).eval = ev at *
      go_simp
    exact steps_nil
  case hend =>
    intro L a wz hall hJ
    obtain ⟨f, own, val, rfl, H⟩ := hJ
    obtain ⟨GZ, raZ, rcZ, rdZ, reZ, hv14, h2, htb⟩ := (H.free 14 (show 14 < 16 by decide) (hall _) rfl).now
    have hv15 := H.pur 15 (show 15 < 16 by decide) (hall _)
    have hv15 : val 15 = .int .i64 0 := hv15
    have s73 := H.slot 0 73 (show 0 < 16 by decide) (hall _) rfl
    have s74 := H.slot 1 74 (show 1 < 16 by decide) (hall _) rfl
    have s75 := H.slot 2 75 (show 2 < 16 by decide) (hall _) rfl
    have s76 := H.slot 3 76 (show 3 < 16 by decide) (hall _) rfl
    have s77 := H.slot 4 77 (show 4 < 16 by decide) (hall _) rfl
    have s78 := H.slot 5 78 (show 5 < 16 by decide) (hall _) rfl
    have s79 := H.slot 6 79 (show 6 < 16 by decide) (hall _) rfl
    have s80 := H.slot 7 80 (show 7 < 16 by decide) (hall _) rfl
    have s81 := H.slot 8 81 (show 8 < 16 by decide) (hall _) rfl
    have s82 := H.slot 9 82 (show 9 < 16 by decide) (hall _) rfl
    have s72 := H.slot 10 72 (show 10 < 16 by decide) (hall _) rfl
    have s83 := H.slot 11 83 (show 11 < 16 by decide) (hall _) rfl
    have s84 := H.slot 12 84 (show 12 < 16 by decide) (hall _) rfl
    have s15 := H.slot 14 15 (show 14 < 16 by decide) (hall _) rfl
    have s16 := H.slot 15 16 (show 15 < 16 by decide) (hall _) rfl
    have hup := upd_puts a0 [73, 74, 75, 76, 77, 78, 79, 80, 81, 82, 72, 83, 84, 15, 16] f (fun _ => none) (fun s hs => H.off s hs) (fun s hs => by simp only [List.mem_cons, List.not_mem_nil, or_false] at hs; rcases hs with rfl | rfl | rfl | rfl | rfl | rfl | rfl | rfl | rfl | rfl | rfl | rfl | rfl | rfl | rfl <;> exact ⟨_, by assumption⟩)
    rw [upd_none] at hup
    simp only [List.map_cons, List.map_nil, s73, s74, s75, s76, s77, s78, s79, s80, s81, s82, s72, s83, s84, s15, s16, Option.getD_some, hv14, hv15] at hup
    rw [hup]
    have hbz := H.kept.below (B := W7.heap.size) (fun k h => h.elim) (Nat.le_refl _)
    clear H hup hv14 hv15 hall hAS A1 A2 A3 s73 s74 s75 s76 s77 s78 s79 s80 s81 s82 s72 s83 s84 s15 s16
    generalize val 0 = y0
    generalize val 1 = y1
    generalize val 2 = y2
    generalize val 3 = y3
    generalize val 4 = y4
    generalize val 5 = y5
    generalize val 6 = y6
    generalize val 7 = y7
    generalize val 8 = y8
    generalize val 9 = y9
    generalize val 10 = y10
    generalize val 11 = y11
    generalize val 12 = y12
    rw [HA0.out]
    clear HA0
    simp only [puts, Act.put]
    have HZ := Lib.hid h2
    have HUZ := Lib.hid htb
    have b_P := below_then b_P hbz
    have b_X := below_then b_X hbz
    have b_B := below_then b_B hbz
    have b_Y := below_then b_Y hbz
    have b_Z := Below.refl wz.heap.size wz
    clear h2 htb hbz
    go_simp
    have cX0 := (HX.out.next b_X).c0
    have cX1 := (HX.out.next b_X).c1
    have cY0 := (HY.out.next b_Y).c0
    have cY1 := (HY.out.next b_Y).c1
    go_wp2_with fail
    refine (stab_true (HUX.out.next b_X) (HUY.out.next b_Y) hokx.small).mono ?_
    rintro e w8 ⟨rfl, hbn⟩
    have b_P := below_then b_P hbn
    have b_X := below_then b_X hbn
    have b_B := below_then b_B hbn
    have b_Y := below_then b_Y hbn
    have b_Z := below_then b_Z hbn
    clear hbn
    clear cX0 cX1 cY0 cY1
    have cX0 := (HX.out.next b_X).c0
    have cX1 := (HX.out.next b_X).c1
    have cZ0 := (HZ.out.next b_Z).c0
    have cZ1 := (HZ.out.next b_Z).c1
    go_wp2_with fail
    refine (stab_true (HUX.out.next b_X) (HUZ.out.next b_Z) hokx.small).mono ?_
    rintro e w9 ⟨rfl, hbn⟩
    have b_P := below_then b_P hbn
    have b_X := below_then b_X hbn
    have b_B := below_then b_B hbn
    have b_Y := below_then b_Y hbn
    have b_Z := below_then b_Z hbn
    clear hbn
    go_wp2_with fail
    go_ret
    exact ⟨rfl, below_then HB0.out b_P⟩
end Go.Proofs.Ytnjnalehfhfefaa
