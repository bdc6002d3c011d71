/- fs.Crash. -/
import Derived.Test.YtmjcdjekakaigaaFsSw
namespace Go.Proofs.Ytmjcdjekakaigaa.Fs
open Go.RowKit
set_option linter.unusedVariables false

/-- a file system laid into a block below its rows -/
theorem store3 {w w5 : World} {S RB B : Nat} {f : T} {nv dv sv a b c : Value} (hq : Bk w5 RB 25 #[a, b, c]) (ho : Own w5 B f nv dv sv) (hS : S ≤ RB) (hB : RB < B) (hb : Below S w w5) :
    Own (((w5.setCell ⟨RB, 0, none⟩ nv).setCell ⟨RB, 1, none⟩ dv).setCell ⟨RB, 2, none⟩ sv) S f nv dv sv ∧ Below S w (((w5.setCell ⟨RB, 0, none⟩ nv).setCell ⟨RB, 1, none⟩ dv).setCell ⟨RB, 2, none⟩ sv) ∧
      Bk (((w5.setCell ⟨RB, 0, none⟩ nv).setCell ⟨RB, 1, none⟩ dv).setCell ⟨RB, 2, none⟩ sv) RB 25 #[nv, dv, sv] := by
  have hk : ∀ g, B ≤ g → (((w5.setCell ⟨RB, 0, none⟩ nv).setCell ⟨RB, 1, none⟩ dv).setCell ⟨RB, 2, none⟩ sv).heap[g]? = w5.heap[g]? := fun g hg => by
    have hne : g ≠ RB := by omega
    rw [heap_set _ _ _ _ hne, heap_set _ _ _ _ hne, heap_set _ _ _ _ hne]
  refine ⟨?_, ?_, ?_⟩
  · have h1 := ho.same (w' := ((w5.setCell ⟨RB, 0, none⟩ nv).setCell ⟨RB, 1, none⟩ dv).setCell ⟨RB, 2, none⟩ sv) (fun g hg => hk g (by
      rcases hg with hg | hg | hg
      · exact (ho.nro.lt g hg).1
      · exact (ho.dro.lt g hg).1
      · exact (ho.sro.lt g hg).1))
    exact ⟨h1.nro.weak (by omega), h1.dro.weak (by omega), h1.sro.weak (by omega), h1.far, h1.nok, h1.dok, h1.sok⟩
  · exact ((hb.setCell (p := ⟨RB, 0, none⟩) hS nv).setCell (p := ⟨RB, 1, none⟩) hS dv).setCell (p := ⟨RB, 2, none⟩) hS sv
  · have := ((hq.set 0 nv).set 1 dv).set 2 sv
    simpa using this
theorem Own.base {w : World} {B B' : Nat} {f : T} {nv dv sv : Value} (h : Own w B f nv dv sv) (hB : B' ≤ B) : Own w B' f nv dv sv := ⟨h.nro.weak hB, h.dro.weak hB, h.sro.weak hB, h.far, h.nok, h.dok, h.sok⟩
/-- the nodes that have landed so far -/
def mixL (l : List Nd) (m k : Nat) : List Nd := (landed l m).take k ++ l.drop k
theorem landed_len (l : List Nd) (m : Nat) : (landed l m).length = l.length := by simp [landed]
theorem mixL_zero (l : List Nd) (m : Nat) : mixL l m 0 = l := by simp [mixL]
theorem mixL_all (l : List Nd) (m : Nat) : mixL l m l.length = landed l m := by
  unfold mixL; rw [List.drop_length, List.take_of_length_le (by rw [landed_len]; omega)]; simp
theorem mixL_len (l : List Nd) (m k : Nat) (hk : k ≤ l.length) : (mixL l m k).length = l.length := by
  unfold mixL; rw [List.length_append, List.length_take, landed_len, List.length_drop]; omega
theorem landed_at (l : List Nd) (m k : Nat) (hk : k < l.length) : (landed l m).getD k nulN = if bit m k then ⟨(l.getD k nulN).live, (l.getD k nulN).live⟩ else ⟨(l.getD k nulN).syn, (l.getD k nulN).syn⟩ := by
  rw [getD_at _ _ _ (by rw [landed_len]; exact hk)]
  unfold landed
  rw [List.getElem_map, List.getElem_range]
theorem mixL_step (l : List Nd) (m k : Nat) (hk : k < l.length) : landN (mixL l m k) k (bit m k) = mixL l m (k + 1) := by
  have hl : ((landed l m).take k).length = k := by rw [List.length_take, landed_len]; omega
  have hg : (mixL l m k).getD k nulN = l.getD k nulN := by
    unfold mixL
    rw [getD_at _ _ _ (by rw [List.length_append, hl, List.length_drop]; omega), getD_at _ _ _ hk, List.getElem_append_right (by omega)]
    simp [hl]
  unfold landN
  rw [hg, ← landed_at l m k hk]
  unfold mixL
  rw [List.set_append_right _ _ (by omega), hl, Nat.sub_self, drop_cons l nulN k hk, List.set_cons_zero, take_snoc (landed l m) nulN k (by rw [landed_len]; exact hk), List.append_assoc]
  rfl

theorem mask_and (m : Nat) (hm : m < 18446744073709551616) : (bits .and .u64 (m : Int) 9223372036854775808 != 0) = decide (9223372036854775808 ≤ m) := by
  have h := bits_and_u64_nat m 9223372036854775808 hm (by omega)
  have h3 : m.testBit 63 = decide (9223372036854775808 ≤ m) := by
    rw [Nat.testBit_eq_decide_div_mod_eq, decide_eq_decide, show (2 : Nat) ^ 63 = 9223372036854775808 by decide]
    omega
  have h2 : m &&& 9223372036854775808 = if 9223372036854775808 ≤ m then 9223372036854775808 else 0 := by
    rw [show (9223372036854775808 : Nat) = 2 ^ 63 by decide] at h3 ⊢
    apply Nat.eq_of_testBit_eq
    intro i
    rw [Nat.testBit_and, Nat.testBit_two_pow]
    by_cases hk : 2 ^ 63 ≤ m
    · rw [if_pos hk, Nat.testBit_two_pow]
      by_cases e : 63 = i
      · subst e; rw [h3, decide_eq_true hk]; simp
      · rw [decide_eq_false e]; simp
    · rw [if_neg hk]
      by_cases e : 63 = i
      · subst e; rw [h3, decide_eq_false hk]; simp
      · rw [decide_eq_false e]; simp
  rw [h2] at h
  have e : bits .and .u64 (m : Int) 9223372036854775808 = ((if 9223372036854775808 ≤ m then 9223372036854775808 else 0 : Nat) : Int) := h
  rw [e]
  by_cases hk : 9223372036854775808 ≤ m
  · rw [decide_eq_true hk, if_pos hk]; rfl
  · rw [decide_eq_false hk, if_neg hk]; rfl
theorem bit_and (m k : Nat) (hm : m < 18446744073709551616) : (bits .and .u64 ((m : Int) / 2 ^ k) 1 == 1) = bit m k := by
  have hlt : m / 2 ^ k < 18446744073709551616 := Nat.lt_of_le_of_lt (Nat.div_le_self _ _) hm
  have h := bits_and_u64_nat (m / 2 ^ k) 1 hlt (by omega)
  have e : ((m : Int) / 2 ^ k) = ((m / 2 ^ k : Nat) : Int) := by simp
  rw [e]
  have h2 : (m / 2 ^ k) &&& 1 = m / 2 ^ k % 2 := Nat.and_one_is_mod _
  rw [h2] at h
  have e2 : bits .and .u64 ((m / 2 ^ k : Nat) : Int) 1 = ((m / 2 ^ k % 2 : Nat) : Int) := h
  rw [e2]
  unfold bit
  by_cases hk : m / 2 ^ k % 2 = 1
  · rw [hk]; rfl
  · rw [decide_eq_false hk]
    rw [beq_eq_false_iff_ne]
    omega
set_option maxHeartbeats 4000000 in
set_option maxRecDepth 100000 in
theorem crash_any (p : At) (f : T) (m : Nat) (w : World) (h : Fss w w.heap.size p f) (hm : m < 18446744073709551616) :
    Calls Try.prog 10 #[fsV p f, .int .u64 m] w (FsPost (crash f m) w) := by
  have hal0 : Below w.heap.size w (w.alloc (.cells #[.slice p.an f.nodes.length p.cn, .slice p.ad f.dir.length p.cd, .slice p.ay f.syn.length p.cy] 25)) := (Below.refl _ _).alloc (Nat.le_refl _) _
  have hT0 : Bk (w.alloc (.cells #[.slice p.an f.nodes.length p.cn, .slice p.ad f.dir.length p.cd, .slice p.ay f.syn.length p.cy] 25)) w.heap.size 25 #[.slice p.an f.nodes.length p.cn, .slice p.ad f.dir.length p.cd, .slice p.ay f.syn.length p.cy] := bk_new _ _ _
  have hal1 := (Below.refl (w.alloc (.cells #[.slice p.an f.nodes.length p.cn, .slice p.ad f.dir.length p.cd, .slice p.ay f.syn.length p.cy] 25)).heap.size (w.alloc (.cells #[.slice p.an f.nodes.length p.cn, .slice p.ad f.dir.length p.cd, .slice p.ay f.syn.length p.cy] 25))).alloc (Nat.le_refl _) (.cells #[.slice none 0 0, .slice none 0 0, .slice none 0 0] 25)
  have hT := hT0.next hal1
  have hR : Bk ((w.alloc (.cells #[.slice p.an f.nodes.length p.cn, .slice p.ad f.dir.length p.cd, .slice p.ay f.syn.length p.cy] 25)).alloc (.cells #[.slice none 0 0, .slice none 0 0, .slice none 0 0] 25)) (w.heap.size + 1) 25 #[.slice none 0 0, .slice none 0 0, .slice none 0 0] := by
    have := bk_new (w.alloc (.cells #[.slice p.an f.nodes.length p.cn, .slice p.ad f.dir.length p.cd, .slice p.ay f.syn.length p.cy] 25)) 25 #[.slice none 0 0, .slice none 0 0, .slice none 0 0]
    simpa using this
  have hF := (h.next hal0).next hal1
  have hal := hal0.trans (hal1.mono hal0.size)
  have hcl := check_lt f
  clear hal0 hal1 hT0 h
  generalize hW : (w.alloc (.cells #[.slice p.an f.nodes.length p.cn, .slice p.ad f.dir.length p.cd, .slice p.ay f.syn.length p.cy] 25)).alloc (.cells #[.slice none 0 0, .slice none 0 0, .slice none 0 0] 25) = W1 at *
  have HW := Lib.hid hW
  have HT := Lib.hid hT
  have HR := Lib.hid hR
  have HF := Lib.hid hF
  have HC := Lib.hid (check_any p f W1 hF)
  have hsz : w.heap.size + 2 ≤ W1.heap.size := hR.lt
  obtain ⟨RB, hRB⟩ : ∃ RB, RB = w.heap.size + 1 := ⟨_, rfl⟩
  rw [← hRB] at HR
  have hRBw : w.heap.size ≤ RB := by omega
  have hRB1 : RB < W1.heap.size := by omega
  obtain ⟨d0, d1, d2⟩ := hT.three
  obtain ⟨an, cn, ad, cd, ay, cy⟩ := p
  unfold fsV at *
  simp only at *
  clear hW hT hR hF
  unfold crash
  by_cases hc : check f ≠ 0
  · rw [if_pos hc]
    have g1 : ((check f : Int) != 0) = true := by rw [bne_iff_ne]; omega
    generalize check f = er at *
    go_enter Try.func10, Try.ntmps10
    go_wp2_with fail
    rw [HW.out]
    go_wp2_with fail
    refine (HC.out).mono ?_
    rintro e w1 ⟨rfl, hb1⟩
    have q := HR.out.next hb1
    have hO := Own.nul w1 W1.heap.size
    obtain ⟨o1, o2, o3⟩ := store3 q hO hRBw hRB1 (hal.trans (hb1.mono (by omega)))
    rw [← hRB]
    obtain ⟨z0, z1, z2⟩ := o3.three
    obtain ⟨a0, a1, a2⟩ := q.three
    have b0 := q.free 0
    have b1 := q.free 1
    have b2 := q.free 2
    have HO1 := Lib.hid o1
    have HO2 := Lib.hid o2
    clear o1 o2 o3 q hO hRB
    go_wp2_with fail
    refine bodyPost_ret (v := .tuple #[.agg #[.slice none 0 0, .slice none 0 0, .slice none 0 0], .int .i64 er]) (by simp [results, Try.results10, go_sem, z0, z1, z2]) rfl ?_
    exact ⟨_, _, _, rfl, HO1.out, HO2.out⟩
  rw [if_neg hc]
  have hc0 : check f = 0 := by omega
  have hok := (check_ok f).1 hc0
  have hdl := dir_len hok.dir
  have hsl := dir_len hok.syn
  have hnl := hok.len
  rw [hc0] at HC
  have HCO := Lib.hid (fun W (hb : Below W1.heap.size W1 W) => copied_any ⟨an, cn, ad, cd, ay, cy⟩ f W (HF.out.next hb) (by omega) (by omega) (by omega))
  have HOK := Lib.hid hok
  unfold fsV at HCO
  simp only at HCO
  clear hc hc0 hok
  go_enter Try.func10, Try.ntmps10
  go_wp2_with fail
  rw [HW.out]
  go_wp2_with fail
  refine (HC.out).mono ?_
  rintro e w1 ⟨rfl, hb1⟩
  obtain ⟨x0, x1, x2⟩ := (HT.out.next hb1).three
  clear d0 d1 d2
  go_wp2_with fail
  refine (HCO.out _ hb1).mono ?_
  rintro e w2 ⟨G, nv, dv, sv, rfl, hch, hb2⟩
  rw [← hRB]
  clear x0 x1 x2
  have hbB : Below w1.heap.size w1 w2 := hb2
  have HB1 := Lib.hid (show Below w.heap.size w w1 from hal.trans (hb1.mono (by omega)))
  have hRBw1 : RB < w1.heap.size := Nat.lt_of_lt_of_le hRB1 hb1.size
  have HQ := Lib.hid (HR.out.next hb1)
  have HCH := Lib.hid hch
  obtain ⟨p2, e1, e2, e3, hf2⟩ := hch.toOwn.fss
  subst e1; subst e2; subst e3
  obtain ⟨x0, x1, x2⟩ := hch.bk.three
  have f1 := hch.bk.free 1
  have hma := mask_and m hm
  clear hRB hch
  by_cases hmk : 9223372036854775808 ≤ m
  · have HD := Lib.hid (show crashD f m = f.dir by unfold crashD; rw [if_pos hmk])
    rw [decide_eq_true hmk] at hma
    have HSY := Lib.hid (syncDir_any w1.heap.size G f _ _ _ w2 HCH.out (by omega))
    go_wp2_with fail
    refine (HSY.out).mono ?_
    rintro e w3 ⟨rfl, hb3, nv3, dv3, sv3, hch3⟩
    have HC3 := Lib.hid (show Chg w3 w1.heap.size G ⟨f.nodes, crashD f m, crashD f m⟩ nv3 dv3 sv3 by rw [HD.out]; exact hch3)
    have HB3 := Lib.hid (hb2.trans hb3)
    clear hch3 x0 x1 x2 f1 hma hf2
    obtain ⟨an3, cn3, rfl, -, -⟩ := nrow_nds HC3.out.nro
    obtain ⟨y0, y1, y2⟩ := HC3.out.bk.three
    have HSTP := Lib.hid (fun k hk => mixL_step f.nodes m k hk)
    have HML := Lib.hid (fun k hk => mixL_len f.nodes m k hk)
    have HMA := Lib.hid (mixL_all f.nodes m)
    have HBIT := Lib.hid (fun k => bit_and m k hm)
    have HRG := Lib.hid (show ∀ e, e ∈ crashD f m ∨ e ∈ crashD f m → 0 ≤ e.node ∧ e.node < ((landed f.nodes m).length : Int) from fun e he => by
      rw [landed_len]
      rw [HD.out] at he
      have he : e ∈ f.dir := he.elim id id
      exact HOK.out.dir.rg e he)
    have HLE := Lib.hid (show (crashD f m).length ≤ 1048576 by rw [HD.out]; omega)
    have HC4 := Lib.hid (show Chg w3 w1.heap.size G ⟨mixL f.nodes m 0, crashD f m, crashD f m⟩ _ _ _ by rw [mixL_zero]; exact HC3.out)
    have HLN := Lib.hid (landed_len f.nodes m)
    generalize crashD f m = D at *
    generalize landed f.nodes m = LN at *
    clear HD
    go_wp2_with fail
    clear y0 y1 y2
    go_loopw [8, 38] (fun _ i wr => ∃ k : Nat, k ≤ f.nodes.length ∧ i = .int .i64 k ∧ (∃ nv dv sv, Hid (Chg wr w1.heap.size G ⟨mixL f.nodes m k, D, D⟩ nv dv sv)) ∧ Below w1.heap.size w1 wr) (fun _ i _ => f.nodes.length - (intOf i).toNat)
    case atStart => exact ⟨0, by omega, rfl, ⟨_, _, _, HC4⟩, HB3.out⟩
    case round =>
      obtain ⟨k, hk, rfl, ⟨nv, dv, sv, HC⟩, hbw⟩ := hrel
      by_cases hlt : k < f.nodes.length
      · have hkI : (k : Int) < (f.nodes.length : Int) := by omega
        have HLA := land_any w1.heap.size G k (bit m k) _ _ _ _ wr HC.out (by rw [HML.out k hk]; exact hlt)
        rw [HSTP.out k hlt] at HLA
        have hbit := HBIT.out k
        have HLB := Lib.hid HLA
        clear HLA
        generalize bit m k = bt at *
        go_wp2_with fail
        refine (HLB.out).mono ?_
        rintro e w4 ⟨rfl, hb4, nv4, dv4, sv4, hch4⟩
        have HC5 := Lib.hid hch4
        clear hch4
        go_wp2_with fail
        exact ⟨⟨k + 1, by omega, by go_num, ⟨_, _, _, HC5⟩, hbw.trans hb4⟩, by simp [intOf]; omega⟩
      · obtain rfl : k = f.nodes.length := by omega
        rw [HMA.out] at HC
        have HSW := Lib.hid (sweep_any w1.heap.size G _ _ _ _ wr HC.out (by simp only; rw [HLN.out]; omega) HLE.out HLE.out HRG.out)
        clear HC
        go_wp2_with fail
        refine (HSW.out).mono ?_
        rintro e w4 ⟨rfl, hb4, nv4, dv4, sv4, hch4⟩
        have q := HQ.out.below (hbw.trans hb4) hRBw1
        obtain ⟨o1, o2, o3⟩ := store3 q hch4.toOwn hRBw hRBw1 (HB1.out.trans ((hbw.trans hb4).mono (by omega)))
        obtain ⟨z0, z1, z2⟩ := o3.three
        obtain ⟨a0, a1, a2⟩ := q.three
        have b0 := q.free 0
        have b1 := q.free 1
        have b2 := q.free 2
        obtain ⟨y0, y1, y2⟩ := hch4.bk.three
        have hgo := hch4.toOwn.fss
        obtain ⟨p9, q1, q2, q3, -⟩ := hgo
        subst q1; subst q2; subst q3
        have HO1 := Lib.hid o1
        have HO2 := Lib.hid o2
        have hGR : RB ≠ G := by have := hch4.ge; omega
        generalize swept ⟨LN, D, D⟩ = FF at *
        clear o1 o2 o3 q hch4
        go_wp2_with fail
        refine bodyPost_ret (v := .tuple #[.agg #[.slice p9.an FF.nodes.length p9.cn, .slice p9.ad FF.dir.length p9.cd, .slice p9.ay FF.syn.length p9.cy], .int .i64 0]) (by simp [results, Try.results10, go_sem, z0, z1, z2]) rfl ?_
        exact ⟨_, _, _, rfl, HO1.out, HO2.out⟩
  · have HD := Lib.hid (show crashD f m = f.syn by unfold crashD; rw [if_neg hmk])
    rw [decide_eq_false hmk] at hma
    have HCL := Lib.hid (cloneE_any p2.ay p2.cy f.syn w2 (by omega) hf2.scap hf2.syn)
    go_wp2_with fail
    refine (HCL.out).mono ?_
    rintro e w3 ⟨v3, rfl, hr3, hb3⟩
    have h3 := HCH.out.move hb3
    obtain ⟨y0, y1, y2⟩ := h3.bk.three
    have g1 := h3.bk.free 1
    have hbs := HCH.out.toOwn.dro
    have HC3 := Lib.hid (show Chg (w3.setCell ⟨G, 1, none⟩ v3) w1.heap.size G ⟨f.nodes, crashD f m, crashD f m⟩ _ v3 _ from h3.turn h3.bk (by
      rw [HD.out]
      exact ⟨h3.nro, hr3.weak hb2.size, h3.sro, fun g hg hg' => by
        have p1 := (hr3.lt g hg).1
        have p2 := (HCH.out.sro.lt g hg').2
        omega, h3.nok, h3.sok, h3.sok⟩) rfl)
    have HB3 := Lib.hid (show Below w1.heap.size w1 (w3.setCell ⟨G, 1, none⟩ v3) from (hb2.trans (hb3.mono hb2.size)).setCell (p := ⟨G, 1, none⟩) HCH.out.ge v3)
    obtain ⟨a3, k3, rfl, -, -⟩ := erow_ens hr3
    clear h3 hr3 hbs x0 x1 x2 hma hf2
    go_wp2_with fail
    clear y0 y1 y2 g1
    skip
    obtain ⟨y0, y1, y2⟩ := HC3.out.bk.three
    have HSTP := Lib.hid (fun k hk => mixL_step f.nodes m k hk)
    have HML := Lib.hid (fun k hk => mixL_len f.nodes m k hk)
    have HMA := Lib.hid (mixL_all f.nodes m)
    have HBIT := Lib.hid (fun k => bit_and m k hm)
    have HRG := Lib.hid (show ∀ e, e ∈ crashD f m ∨ e ∈ crashD f m → 0 ≤ e.node ∧ e.node < ((landed f.nodes m).length : Int) from fun e he => by
      rw [landed_len]
      rw [HD.out] at he
      have he : e ∈ f.syn := he.elim id id
      exact HOK.out.syn.rg e he)
    have HLE := Lib.hid (show (crashD f m).length ≤ 1048576 by rw [HD.out]; omega)
    have HC4 := Lib.hid (show Chg (w3.setCell ⟨G, 1, none⟩ _) w1.heap.size G ⟨mixL f.nodes m 0, crashD f m, crashD f m⟩ _ _ _ by rw [mixL_zero]; exact HC3.out)
    have HLN := Lib.hid (landed_len f.nodes m)
    generalize crashD f m = D at *
    generalize landed f.nodes m = LN at *
    clear HD
    go_wp2_with fail
    clear y0 y1 y2
    go_loopw [8, 38] (fun _ i wr => ∃ k : Nat, k ≤ f.nodes.length ∧ i = .int .i64 k ∧ (∃ nv dv sv, Hid (Chg wr w1.heap.size G ⟨mixL f.nodes m k, D, D⟩ nv dv sv)) ∧ Below w1.heap.size w1 wr) (fun _ i _ => f.nodes.length - (intOf i).toNat)
    case atStart => exact ⟨0, by omega, rfl, ⟨_, _, _, HC4⟩, HB3.out⟩
    case round =>
      obtain ⟨k, hk, rfl, ⟨nv, dv, sv, HC⟩, hbw⟩ := hrel
      by_cases hlt : k < f.nodes.length
      · have hkI : (k : Int) < (f.nodes.length : Int) := by omega
        have HLA := land_any w1.heap.size G k (bit m k) _ _ _ _ wr HC.out (by rw [HML.out k hk]; exact hlt)
        rw [HSTP.out k hlt] at HLA
        have hbit := HBIT.out k
        have HLB := Lib.hid HLA
        clear HLA
        generalize bit m k = bt at *
        go_wp2_with fail
        refine (HLB.out).mono ?_
        rintro e w4 ⟨rfl, hb4, nv4, dv4, sv4, hch4⟩
        have HC5 := Lib.hid hch4
        clear hch4
        go_wp2_with fail
        exact ⟨⟨k + 1, by omega, by go_num, ⟨_, _, _, HC5⟩, hbw.trans hb4⟩, by simp [intOf]; omega⟩
      · obtain rfl : k = f.nodes.length := by omega
        rw [HMA.out] at HC
        have HSW := Lib.hid (sweep_any w1.heap.size G _ _ _ _ wr HC.out (by simp only; rw [HLN.out]; omega) HLE.out HLE.out HRG.out)
        clear HC
        go_wp2_with fail
        refine (HSW.out).mono ?_
        rintro e w4 ⟨rfl, hb4, nv4, dv4, sv4, hch4⟩
        have q := HQ.out.below (hbw.trans hb4) hRBw1
        obtain ⟨o1, o2, o3⟩ := store3 q hch4.toOwn hRBw hRBw1 (HB1.out.trans ((hbw.trans hb4).mono (by omega)))
        obtain ⟨z0, z1, z2⟩ := o3.three
        obtain ⟨a0, a1, a2⟩ := q.three
        have b0 := q.free 0
        have b1 := q.free 1
        have b2 := q.free 2
        obtain ⟨y0, y1, y2⟩ := hch4.bk.three
        have hgo := hch4.toOwn.fss
        obtain ⟨p9, q1, q2, q3, -⟩ := hgo
        subst q1; subst q2; subst q3
        have HO1 := Lib.hid o1
        have HO2 := Lib.hid o2
        have hGR : RB ≠ G := by have := hch4.ge; omega
        generalize swept ⟨LN, D, D⟩ = FF at *
        clear o1 o2 o3 q hch4
        go_wp2_with fail
        refine bodyPost_ret (v := .tuple #[.agg #[.slice p9.an FF.nodes.length p9.cn, .slice p9.ad FF.dir.length p9.cd, .slice p9.ay FF.syn.length p9.cy], .int .i64 0]) (by simp [results, Try.results10, go_sem, z0, z1, z2]) rfl ?_
        exact ⟨_, _, _, rfl, HO1.out, HO2.out⟩
end Go.Proofs.Ytmjcdjekakaigaa.Fs
