/- The walk of TableRedacts. -/
import Derived.Test.YtnjnalehfhfefaaTbL0
import Derived.Test.YtnjnalehfhfefaaTbB
import Derived.Test.YtnjnalehfhfefaaTbR1
import Derived.Test.YtnjnalehfhfefaaTbR3
import Derived.Test.YtnjnalehfhfefaaTbLawR
namespace Go.Proofs.Ytnjnalehfhfefaa
open Go.RowKit
set_option linter.unusedVariables false

theorem ownC_step (p : List O.Cd) (q j : Nat) (h : j < p.length) : Tb.ownC (p.take (j + 1)) q = (Tb.ownC (p.take j) q || (decide ((p.getD j O.nullC).op ≤ 4) && decide ((p.getD j O.nullC).col = (q : Int)))) := by
  unfold Tb.ownC
  rw [List.take_succ_eq_append_getElem h, List.any_append]
  simp [List.getD, List.getElem?_eq_getElem h]
theorem dat_rowIn {w : World} {B : Nat} {a : Option Addr} {l : List (List C.Cl)} (h : Dat w B a l) (i : Nat) (hi : i < l.length) : ∀ x ∈ l.getD i [], cOk x := by
  obtain ⟨b, off, _, _, hdd⟩ := h (fun e => by rw [e] at hi; simp at hi)
  obtain ⟨ai, ci, _, hri⟩ := hdd i hi
  exact hri.ok
theorem rowAt_ok {t : Tb.T} {j : Nat} (h : ∀ i, i < t.data.length → ∀ x ∈ t.data.getD i [], cOk x) (hr : ∀ i, i < t.data.length → (t.data.getD i []).length = Tb.rows t) (hj : j < Tb.rows t) : ∀ x ∈ Tb.rowAt t j, cOk x := by
  intro x hx
  unfold Tb.rowAt at hx
  obtain ⟨l, hl, rfl⟩ := List.mem_map.1 hx
  obtain ⟨i, hi, rfl⟩ := Tb.mem_getD [] hl
  exact h i hi _ (cgetD_mem _ _ (by rw [hr i hi]; exact hj))

set_option maxHeartbeats 4000000 in
set_option maxRecDepth 100000 in
theorem tableRedacts_walk (w : World) (ca : Option Addr) (cc : Nat) (da : Option Addr) (dc : Nat) (t : Tb.T) (ht : Tbl w w.heap.size ca cc da dc t) (nm : ByteArray) (hnm : nm.size ≤ maxLen) (ap : Option Addr) (cp : Nat) (p : List O.Cd) (hpm : p.length ≤ maxLen) (hpq : p.length ≤ cp ∧ cp ≤ maxLen ∧ (ap = none → cp = 0)) (hpx : ∀ x ∈ p, dOk x) (hpu : Cds w w.heap.size ap p) :
    Calls Try.prog 6 #[tag ca t.cols.length cc da t.data.length dc, .string nm, .slice ap p.length cp] w (BoolPost true w) := by
  obtain ⟨n, rfl⟩ : ∃ n, nm = str n := ⟨nm.data.toList, by simp [str]⟩
  have a0 : Below w.heap.size w (w.alloc (.cells #[.slice ca t.cols.length cc, .slice da t.data.length dc] 25)) := (Below.refl _ _).alloc (Nat.le_refl _) _
  have HP := Lib.hid (two_new w 25 (.slice ca t.cols.length cc) (.slice da t.data.length dc))
  have HUP := Lib.hid (ht.next a0)
  have HCD := Lib.hid (hpu.next at5_firm a0)
  have HL := Lib.hid (Tb.redacts_law t n p)
  have HXR := Lib.hid (fun i (hi : i < t.data.length) => dat_rowIn ht.dat i hi)
  have HB0 := Lib.hid a0
  have b_P := Below.refl (w.alloc (.cells #[.slice ca t.cols.length cc, .slice da t.data.length dc] 25)).heap.size (w.alloc (.cells #[.slice ca t.cols.length cc, .slice da t.data.length dc] 25))
  clear ht hpu
  clear a0
  go_enter Try.func6, Try.ntmps6
  go_upto_region 1 with fail
  generalize w.alloc (.cells #[.slice ca t.cols.length cc, .slice da t.data.length dc] 25) = W0 at *
  have cP0 := (HP.out.next b_P).c0
  have cP1 := (HP.out.next b_P).c1
  go_wp2_with fail
  refine (tRedact_any ca cc da dc t n ap cp p _ (HUP.out.next b_P) hpm hpx (HCD.out.next at5_firm b_P)).mono ?_
  generalize Tb.chg t (Tb.redE t n p) (Tb.red t n p) = r at HL ⊢
  obtain ⟨r1, r2⟩ := r
  rintro e w1 ⟨raA, rcA, rdA, reA, rfl, hf, hbn⟩
  have hal : Below w1.heap.size w1 (w1.alloc (.cells #[.slice raA r1.cols.length rcA, .slice rdA r1.data.length reA] 25)) := (Below.refl _ _).alloc (Nat.le_refl _) _
  have HUA := Lib.hid (hf.tbl.next hal)
  have hbn := below_then hbn hal
  have HA := two_new w1 25 (.slice raA r1.cols.length rcA) (.slice rdA r1.data.length reA)
  obtain ⟨GA, hG⟩ : ∃ G, G = w1.heap.size := ⟨_, rfl⟩
  rw [← hG] at HA
  have HA := Lib.hid HA
  have b_P := below_then b_P hbn
  clear hf hal hbn cP0 cP1
  go_upto_region 2 with fail
  rw [← hG]
  generalize w1.alloc (.cells #[.slice raA r1.cols.length rcA, .slice rdA r1.data.length reA] 25) = W1 at *
  clear hG
  have b_A := Below.refl W1.heap.size W1
  go_wp2_with fail
  refine (tbegun_any _).mono ?_
  rintro e w2 ⟨rfl, hbn⟩
  have b_P := below_then b_P hbn
  have b_A := below_then b_A hbn
  clear hbn
  rcases HL.out with ⟨hne, rfl⟩ | ⟨a, b, hra, hokt, hoka, hhas, hrows, hrb, hokb, hsame⟩
  · have hne : r2 ≠ 0 := hne
    have g0 : ((r2 : Int) != 0) = true := by rw [bne_iff_ne]; omega
    have cA0 := (HA.out.next b_A).c0
    have cA1 := (HA.out.next b_A).c1
    go_wp2_with fail
    refine (stab_true (HUA.out.next b_A) (Tbl.null _ _) small_nul).mono ?_
    rintro e w3 ⟨rfl, hbn⟩
    have b_P := below_then b_P hbn
    have b_A := below_then b_A hbn
    clear hbn
    go_wp2_with fail
    go_ret
    exact ⟨rfl, below_then HB0.out b_P⟩
  obtain ⟨rfl, rfl⟩ : r1 = a ∧ r2 = 0 := by simpa using hra
  clear HL hra
  have h6 := hokt.six
  have h6d : t.data.length ≤ 6 := by have := hokt.len; omega
  have hcon := rColAt_any n ca cc t.cols w2 (by unfold maxLen; omega) (HUP.out.next b_P).gls
  rw [idx_pos hhas] at hcon
  have hqc : Tb.pos t.cols n < t.cols.length := hhas
  have hqd : Tb.pos t.cols n < t.data.length := by rw [hokt.len]; exact hqc
  have HROWS := Lib.hid hrows
  have HRW := Lib.hid (fun i (hi : i < t.data.length) => hokt.rows i (by have := hokt.len; omega))
  have HSAME := Lib.hid hsame
  have HRB := Lib.hid hrb
  clear hrows hsame hrb hhas
  generalize Tb.pos t.cols n = q at *
  have cP0 := (HP.out.next b_P).c0
  have cP1 := (HP.out.next b_P).c1
  go_wp2_with fail
  refine (hcon).mono ?_
  rintro e w3 ⟨rfl, hbn⟩
  have b_P := below_then b_P hbn
  have b_A := below_then b_A hbn
  clear hbn
  clear hcon cP0 cP1
  have hcd := HCD.out.next at5_firm b_P
  have hpm2 : p.length ≤ 9223372036854775807 := by have := hpm; unfold maxLen at this; exact this
  have hrl128 := hokt.rows_le
  go_upto_region 8 with fail
  go_wp2_with fail
  go_loopw [10, 11] (fun o i wr => ∃ j : Nat, j ≤ p.length ∧ i = .int .i64 j ∧ o = .bool (Tb.ownC (p.take j) q) ∧ Below w3.heap.size w3 wr) (fun _ i _ => p.length - (intOf i).toNat)
  case atStart => exact ⟨0, by omega, rfl, by simp [Tb.ownC], Below.refl _ _⟩
  case round =>
    obtain ⟨j, hj, rfl, rfl, hbw⟩ := hrel
    by_cases hlt : j < p.length
    · obtain ⟨pb, poff, rfl, hpb, hcc⟩ := hcd (fun e => by rw [e] at hlt; simp at hlt)
      obtain ⟨k0, k1, k2, k3, k4⟩ := hcc j hlt
      have e0 := (hbw.cell (p := ⟨pb, poff + j * 5, none⟩) hpb).trans k0
      have e1 := (hbw.cell (p := ⟨pb, poff + j * 5 + 1, none⟩) hpb).trans k1
      have hst := ownC_step p q j hlt
      generalize (p.getD j O.nullC).op = op at *
      generalize (p.getD j O.nullC).col = cl at *
      generalize Tb.ownC (p.take j) q = ow at *
      have hjI : (j : Int) < (p.length : Int) := by omega
      clear k0 k1 k2 k3 k4 hcc hcd
      cases ow with
      | true =>
        have HST := Lib.hid (show Tb.ownC (p.take (j + 1)) q = true by simpa using hst)
        clear hst
        go_wp2_with fail
        exact ⟨⟨j + 1, by omega, by go_num, by rw [HST.out], hbw⟩, by simp [intOf]; omega⟩
      | false =>
        by_cases h4 : op ≤ 4
        · have g5 : decide (op ≤ 4) = true := decide_eq_true h4
          rw [g5] at hst
          by_cases hc : cl = (q : Int)
          · have g6 : (cl == (q : Int)) = true := by rw [beq_iff_eq]; exact hc
            have g7 : decide (cl = (q : Int)) = true := decide_eq_true hc
            rw [g7] at hst
            have HST := Lib.hid (show Tb.ownC (p.take (j + 1)) q = true by simpa using hst)
            clear hst hc h4 g7
            go_wp2_with fail
            exact ⟨⟨j + 1, by omega, by go_num, by rw [HST.out], hbw⟩, by simp [intOf]; omega⟩
          · have g6 : (cl == (q : Int)) = false := by rw [beq_eq_false_iff_ne]; exact hc
            have g7 : decide (cl = (q : Int)) = false := decide_eq_false hc
            rw [g7] at hst
            have HST := Lib.hid (show Tb.ownC (p.take (j + 1)) q = false by simpa using hst)
            clear hst hc h4 g7
            go_wp2_with fail
            exact ⟨⟨j + 1, by omega, by go_num, by rw [HST.out], hbw⟩, by simp [intOf]; omega⟩
        · have g5 : decide (op ≤ 4) = false := decide_eq_false h4
          rw [g5] at hst
          have HST := Lib.hid (show Tb.ownC (p.take (j + 1)) q = false by simpa using hst)
          clear hst h4
          go_wp2_with fail
          exact ⟨⟨j + 1, by omega, by go_num, by rw [HST.out], hbw⟩, by simp [intOf]; omega⟩
    · obtain rfl : j = p.length := by omega
      rw [List.take_length]
      clear hcd
      have b_P := below_then b_P hbw
      have b_A := below_then b_A hbw
      clear hbw
      generalize wr = V0 at *
      go_upto_region 12 with fail
      go_wp2_with fail
      go_loopw [12, 13, 14, 15, 16, 17] (fun i _ _ _ _ _ wr => ∃ j : Nat, j ≤ Tb.rows t ∧ i = .int .i64 j ∧ Below V0.heap.size V0 wr) (fun i _ _ _ _ _ _ => Tb.rows t - (intOf i).toNat)
      case atStart => exact ⟨0, by omega, rfl, Below.refl _ _⟩
      case round =>
        obtain ⟨j, hj, rfl, hbw⟩ := hrel
        have b_P := below_then b_P hbw
        have b_A := below_then b_A hbw
        have cP0 := (HP.out.next b_P).c0
        have cP1 := (HP.out.next b_P).c1
        go_wp2_with fail
        refine (rowsOf_any ca cc da dc t _ (HUP.out.next b_P)).mono ?_
        rintro e w4 ⟨rfl, hbn⟩
        have HBN := Lib.hid hbn
        have b_P := below_then b_P hbn
        have b_A := below_then b_A hbn
        clear hbn
        clear cP0 cP1
        by_cases hlt : j < Tb.rows t
        · have hjI : (j : Int) < (Tb.rows t : Int) := by omega
          have cP0 := (HP.out.next b_P).c0
          have cP1 := (HP.out.next b_P).c1
          have hbV : Below V0.heap.size V0 w4 := below_then hbw HBN.out
          have HUW := Lib.hid (HUP.out.next b_P)
          have HPW := Lib.hid (HP.out.next b_P)
          have hcdw := Lib.hid (HCD.out.next at5_firm b_P)
          have HK := Lib.hid (fun W (hb : Below w4.heap.size w4 W) => rKinds_any ca cc t.cols W (by omega) (HUW.out.next hb).gls)
          have HR := Lib.hid (fun W (hb : Below w4.heap.size w4 W) => rRowAt_any ca cc da dc t j W (HUW.out.next hb) (by omega) (fun i hi => by rw [HRW.out i hi]; exact hlt))
          have hkl := kinds_len t
          have hrl : (Tb.rowAt t j).length = t.data.length := by simp [Tb.rowAt]
          have hxr : ∀ x ∈ Tb.rowAt t j, cOk x := rowAt_ok HXR.out HRW.out hlt
          have HASK := Lib.hid (fun W ka kc a c (hb : Below w4.heap.size w4 W) (hku : Ints W W.heap.size ka (Tb.kinds t)) (hu : Cls W W.heap.size a (Tb.rowAt t j)) => show Calls Try.prog 36 #[.slice ap p.length cp, .slice ka t.cols.length kc, .slice a t.data.length c] W (IEPost (O.askR p (Tb.kinds t) (Tb.rowAt t j)) W) by
            have := ask_any ap cp p ka kc (Tb.kinds t) a c (Tb.rowAt t j) W hpm hpx (hcdw.out.next at5_firm hb) (by rw [hkl]; unfold maxLen; omega) hku (by rw [hrl]; unfold maxLen; omega) hxr hu
            rwa [hkl, hrl] at this)
          obtain ⟨hr1, hr2⟩ := HROWS.out j hlt
          have HR2 := Lib.hid hr2
          have hk2 : t.cols.map Tb.Col.kind = Tb.kinds t := rfl
          rw [hk2] at HK
          go_upto_region 15 with fail
          go_cut [13, 14] from 62 to 105 (fun x f wx => x = .int .i64 ((O.askR p (Tb.kinds t) (Tb.rowAt t j)).1 : Nat) ∧ f = .int .i64 0 ∧ Below w4.heap.size w4 wx)
          case first =>
            generalize O.askR p (Tb.kinds t) (Tb.rowAt t j) = ask at *
            obtain ⟨k1, k2⟩ := ask
            obtain rfl : k2 = 0 := hr1
            have hda : Below w4.heap.size w4 w4 := Below.refl _ _
            have hdb : Below w4.heap.size w4 w4.drew := (Below.refl _ _).drew
            go_region_law (first
              | (go_simp; go_at_call 37; refine (HK.out _ (by first | exact hbR | exact hda | exact hdb)).mono ?_; rintro e wk ⟨vk, rfl, hrk, hbk⟩; have hbK : Below w4.heap.size w4 wk := (by first | exact below_then hbR hbk | exact below_then hda hbk | exact below_then hdb hbk); obtain ⟨ka, kc, rfl, hku⟩ := krow_ints hrk; rw [hkl]; have dP0 := (HPW.out.next hbK).c0; have dP1 := (HPW.out.next hbK).c1)
              | (go_simp; go_at_call 17; refine (HR.out _ (by first | exact hbK | exact hda | exact hdb)).mono ?_; rintro e wq ⟨vq, rfl, hrq, hbq⟩; have hbR : Below w4.heap.size w4 wq := (by first | exact below_then hbK hbq | exact below_then hda hbq | exact below_then hdb hbq); obtain ⟨ra, rc, rfl, hqu, _⟩ := cRow_cls hrq; rw [hrl]; have dQ0 := (HPW.out.next hbR).c0; have dQ1 := (HPW.out.next hbR).c1)
              | (go_simp; go_at_call 36; refine (HASK.out _ _ _ _ _ (by first | exact below_then hbK hbq | exact below_then hbR hbk | exact hbR | exact hbK) (by first | exact hku | exact hku.next at1_firm hbq) (by first | exact hqu | exact hqu.next hbk)).mono ?_; rintro e wz ⟨rfl, hbz⟩; have hbZ : Below w4.heap.size w4 wz := (by first | exact below_then (below_then hbK hbq) hbz | exact below_then (below_then hbR hbk) hbz | exact below_then hbR hbz | exact below_then hbK hbz)))
            all_goals
              go_wp2_with fail
              go_meet
              exact ⟨rfl, rfl, hbZ⟩
          case rest =>
            obtain ⟨rfl, rfl, hbc⟩ := hcut
            have HR3 := HR2
            clear hr1 hr2 HR2 HASK cP0 cP1
            have hbV := below_then hbV hbc
            have b_P := below_then b_P hbc
            have b_A := below_then b_A hbc
            clear hbc
            generalize hask : (O.askR p (Tb.kinds t) (Tb.rowAt t j)).1 = x at *
            clear hask
            have hszV := hbV.size
            have hszP := b_P.size
            have hszA := b_A.size
            have HRA := Lib.hid (rRowAt_any ca cc da dc t j wc (HUP.out.next b_P) (by omega) (fun i hi => by rw [HRW.out i hi]; exact hlt))
            have hql : q < (Tb.rowAt t j).length := by rw [hrl]; exact hqd
            have hd6 := h6d
            have cP0 := (HP.out.next b_P).c0
            have cP1 := (HP.out.next b_P).c1
            generalize Tb.rowAt t j = row at *
            go_wp2_with fail
            refine (HRA.out).mono ?_
            rintro e w5 ⟨v, rfl, hrow, hbn⟩
            have hbV := below_then hbV hbn
            have b_P := below_then b_P hbn
            have b_A := below_then b_A hbn
            clear hbn
            clear cP0 cP1
            obtain ⟨ag, gc, rfl, hcls, _⟩ := cRow_cls hrow
            rw [hrl] at hrow ⊢
            by_cases hx2 : x = 2
            · have g8 : ((x : Int) == 2) = true := by rw [beq_iff_eq]; omega
              rw [if_pos hx2] at HR3
              obtain ⟨gg, rfl⟩ : ∃ gg, ag = some ⟨gg, 0, none⟩ := by
                rcases hrow.2 with ⟨e, h0⟩ | ⟨g, cap, cur, e, _⟩
                · omega
                · injection e with e1 e2 e3; exact ⟨g, e1⟩
              have hggB : wc.heap.size ≤ gg := (hrow.lt gg rfl).1
              obtain ⟨⟨x0, s0⟩, ⟨x1, s1⟩, ⟨x2, s2⟩, f0, f1, f2⟩ := CRow.stores hrow q (.int .i64 0) (.int .u64 0) hql
              have hput := hrow.put q C.null hql
              have hbS : Below wc.heap.size w5 (((w5.setCell ⟨gg, q * 3, none⟩ (.int .i64 0)).setCell ⟨gg, q * 3 + 1, none⟩ (.int .u64 0)).setCell ⟨gg, q * 3 + 2, none⟩ (.string ⟨#[]⟩)) := (((Below.refl _ _).setCell (p := ⟨gg, q * 3, none⟩) hggB (.int .i64 0)).setCell (p := ⟨gg, q * 3 + 1, none⟩) hggB (.int .u64 0)).setCell (p := ⟨gg, q * 3 + 2, none⟩) hggB (.string ⟨#[]⟩)
              change CRow _ _ _ (((w5.setCell ⟨gg, q * 3, none⟩ (.int .i64 0)).setCell ⟨gg, q * 3 + 1, none⟩ (.int .u64 0)).setCell ⟨gg, q * 3 + 2, none⟩ (.string ⟨#[]⟩)) at hput
              have hqI : (q : Int) < (t.data.length : Int) := by omega
              have hbV := hbV.trans (hbS.mono hszV)
              have b_P := b_P.trans (hbS.mono hszP)
              have b_A := b_A.trans (hbS.mono hszA)
              go_upto_region 19 with fail
              generalize ((w5.setCell ⟨gg, q * 3, none⟩ (.int .i64 0)).setCell ⟨gg, q * 3 + 1, none⟩ (.int .u64 0)).setCell ⟨gg, q * 3 + 2, none⟩ (.string ⟨#[]⟩) = W13 at *
              clear f0 f1 f2 s0 s1 s2
              have hwl : (row.set q C.null).length = t.data.length := by rw [List.length_set]; exact hrl
              generalize row.set q C.null = want at *
              obtain ⟨_, _, hform, hwu, _⟩ := cRow_cls hput
              injection hform with hf1 hf2 hf3
              subst hf1
              clear hf2 hf3
              have cA0 := (HA.out.next b_A).c0
              have cA1 := (HA.out.next b_A).c1
              have hcon := tRow_any raA rcA rdA reA r1 j W13 (HUA.out.next b_A)
              rw [HR3.out] at hcon
              clear HR3 hx2
              go_wp2_with fail
              refine hcon.mono ?_
              rintro e w6 ⟨xa, xc, rfl, hxu, hbn⟩
              have hwu := hwu.next hbn
              have hbV := below_then hbV hbn
              clear hcon hbn cA0 cA1
              have hsm := csame_any xa _ xc gc want want w6 _ hxu hwu (by omega)
              rw [decide_eq_true rfl, hwl] at hsm
              rw [hwl]
              go_wp2_with fail
              refine hsm.mono ?_
              rintro e w7 ⟨rfl, hbn⟩
              have hbV := below_then hbV hbn
              clear hsm hbn
              go_wp2_with fail
              exact ⟨⟨j + 1, by omega, by go_num, hbV⟩, by simp [intOf]; omega⟩
            · have g8 : ((x : Int) == 2) = false := by rw [beq_eq_false_iff_ne]; omega
              rw [if_neg hx2] at HR3
              have hwu := hcls
              have hwl := hrl
              clear hrow
              go_upto_region 19 with fail
              generalize row = want at *
              have cA0 := (HA.out.next b_A).c0
              have cA1 := (HA.out.next b_A).c1
              have hcon := tRow_any raA rcA rdA reA r1 j w5 (HUA.out.next b_A)
              rw [HR3.out] at hcon
              clear HR3 hx2
              go_wp2_with fail
              refine hcon.mono ?_
              rintro e w6 ⟨xa, xc, rfl, hxu, hbn⟩
              have hwu := hwu.next hbn
              have hbV := below_then hbV hbn
              clear hcon hbn cA0 cA1
              have hsm := csame_any xa _ xc gc want want w6 _ hxu hwu (by omega)
              rw [decide_eq_true rfl, hwl] at hsm
              rw [hwl]
              go_wp2_with fail
              refine hsm.mono ?_
              rintro e w7 ⟨rfl, hbn⟩
              have hbV := below_then hbV hbn
              clear hsm hbn
              go_wp2_with fail
              exact ⟨⟨j + 1, by omega, by go_num, hbV⟩, by simp [intOf]; omega⟩
        · obtain rfl : j = Tb.rows t := by omega
          have cA0 := (HA.out.next b_A).c0
          have cA1 := (HA.out.next b_A).c1
          have hcon := tRedact_any raA rcA rdA reA r1 n ap cp p w4 (HUA.out.next b_A) hpm hpx (HCD.out.next at5_firm b_P)
          rw [HRB.out] at hcon
          clear HRB
          go_wp2_with fail
          refine (hcon).mono ?_
          rintro e w5 ⟨raB, rcB, rdB, reB, rfl, hf, hbn⟩
          have hal : Below w5.heap.size w5 (w5.alloc (.cells #[.slice raB b.cols.length rcB, .slice rdB b.data.length reB] 25)) := (Below.refl _ _).alloc (Nat.le_refl _) _
          have HUB := Lib.hid (hf.tbl.next hal)
          have hbn := below_then hbn hal
          have HB := two_new w5 25 (.slice raB b.cols.length rcB) (.slice rdB b.data.length reB)
          obtain ⟨GB, hG⟩ : ∃ G, G = w5.heap.size := ⟨_, rfl⟩
          rw [← hG] at HB
          have HB := Lib.hid HB
          have b_P := below_then b_P hbn
          have b_A := below_then b_A hbn
          clear hf hal hbn cA0 cA1
          go_upto_region 23 with fail
          rw [← hG]
          generalize w5.alloc (.cells #[.slice raB b.cols.length rcB, .slice rdB b.data.length reB] 25) = W5 at *
          clear hG
          have b_B := Below.refl W5.heap.size W5
          clear hcon
          generalize Tb.ownC p q = ow at *
          cases ow with
          | true =>
            go_wp2_with fail
            go_ret
            exact ⟨rfl, below_then HB0.out b_P⟩
          | false =>
            obtain rfl : b = r1 := HSAME.out rfl
            have cB0 := (HB.out.next b_B).c0
            have cB1 := (HB.out.next b_B).c1
            have cA0 := (HA.out.next b_A).c0
            have cA1 := (HA.out.next b_A).c1
            go_wp2_with fail
            refine (stab_true (HUB.out.next b_B) (HUA.out.next b_A) hokb.small).mono ?_
            rintro e w6 ⟨rfl, hbn⟩
            have b_P := below_then b_P hbn
            have b_A := below_then b_A hbn
            have b_B := below_then b_B hbn
            clear hbn
            go_wp2_with fail
            go_ret
            exact ⟨rfl, below_then HB0.out b_P⟩
end Go.Proofs.Ytnjnalehfhfefaa
