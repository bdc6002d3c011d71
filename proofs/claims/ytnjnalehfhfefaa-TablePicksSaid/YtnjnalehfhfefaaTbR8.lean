/- The walks of the reference's KeepOf, SliceOf. -/
import Derived.Test.YtnjnalehfhfefaaTbR3
import Derived.Test.YtnjnalehfhfefaaTbR7
namespace Go.Proofs.Ytnjnalehfhfefaa
open Go.RowKit
set_option linter.unusedVariables false

/-- the places that a rule picks, up to one -/
def hitsF (f : Nat → Bool) (j : Nat) : List Nat := (List.range j).filter f
theorem hitsF_step (f : Nat → Bool) (j : Nat) : hitsF f (j + 1) = hitsF f j ++ if f j = true then [j] else [] := by
  unfold hitsF
  rw [List.range_succ, List.filter_append]
  cases h : f j <;> simp [h]
theorem hitsF_len (f : Nat → Bool) (j : Nat) : (hitsF f j).length ≤ j := by
  have := List.length_filter_le f (List.range j)
  simpa [hitsF] using this
theorem hitsF_lt (f : Nat → Bool) (j : Nat) : ∀ x ∈ hitsF f j, x < j := fun x hx => List.mem_range.1 (List.mem_filter.1 hx).1
def nI (l : List Nat) : List Int := l.map (fun n : Nat => (n : Int))
theorem nI_len (l : List Nat) : (nI l).length = l.length := by simp [nI]
theorem nI_snoc (l : List Nat) (j : Nat) : nI (l ++ [j]) = nI l ++ [(j : Int)] := by simp [nI]
theorem flat_pos : ∀ t : O.T, 0 < (O.flat t).length
  | .leaf c => by simp [O.flat]
  | .one c t => by simp [O.flat]
  | .two c t u => by simp only [O.flat, List.length_append, List.length_cons, List.length_nil]; omega
theorem rCond_row {t : Tb.T} {p : List O.Cd} (hok : Tb.Ok t) (hc : O.check p (Tb.kinds t) = 0) {i : Nat} (hi : i < Tb.rows t) (hpx : ∀ x ∈ p, dOk x) (ap : Option Addr) (cp : Nat) (hcp : p.length ≤ cp) (W : World) (hpu : Cds W W.heap.size ap p) (a : Option Addr) (rcap : Nat) (hxr : ∀ x ∈ Tb.rowAt t i, cOk x) (hu : Cls W W.heap.size a (Tb.rowAt t i)) :
    Calls Try.prog 73 #[.slice ap p.length cp, .slice a t.data.length rcap] W (CErrPost (O.askR p (Tb.kinds t) (Tb.rowAt t i)).1 W) := by
  obtain ⟨hl, s, hs, rfl⟩ := O.tree hc
  rw [hok.ask hi hs rfl hl]
  have hne : O.flat s ≠ [] := fun e => by have := flat_pos s; rw [e] at this; simp at this
  obtain ⟨b, off, rfl, hb, hcc⟩ := hpu hne
  have hrl : (Tb.rowAt t i).length = t.data.length := by simp [Tb.rowAt]
  have hlen : (Tb.rowAt t i).length = (Tb.kinds t).length := by rw [hrl, Tb.kinds_len', hok.len]
  have := condOf_any (Tb.kinds t) a rcap (Tb.rowAt t i) (by rw [hrl, hok.len]; have := hok.six; unfold maxLen; omega) hxr hlen s hs hpx b off cp W hcp (by unfold maxLen; omega) hb hcc hu
  rwa [hrl] at this
theorem tru_of {t : Tb.T} {p : List O.Cd} {i : Nat} : Tb.tru t p i = decide ((O.askR p (Tb.kinds t) (Tb.rowAt t i)).1 = 2) := rfl
theorem keep_hits {t : Tb.T} (h : Tb.Ok t) (p : List O.Cd) : Tb.picked t (hitsF (Tb.tru t p) (Tb.rows t)) = Tb.keep t p := (Tb.keep_picked h p).symm
def sliF (f m : Int) (i : Nat) : Bool := decide (f ≤ (i : Int)) && decide ((i : Int) - f < m)
theorem range_between (F N : Nat) : ∀ n, F + N ≤ n → (List.range n).filter (fun i => decide (F ≤ i) && decide (i < F + N)) = List.range' F N
  | 0, h => by
    have : N = 0 := by omega
    subst this; simp
  | n + 1, h => by
    by_cases he : F + N = n + 1
    · by_cases hN : N = 0
      · subst hN
        simp
      · obtain ⟨N', rfl⟩ : ∃ N', N = N' + 1 := ⟨N - 1, by omega⟩
        rw [List.range_succ, List.filter_append]
        have e1 : (List.range n).filter (fun i => decide (F ≤ i) && decide (i < F + (N' + 1))) = (List.range n).filter (fun i => decide (F ≤ i) && decide (i < F + N')) := by
          refine List.filter_congr fun x hx => ?_
          have := List.mem_range.1 hx
          have a1 : decide (x < F + (N' + 1)) = true := decide_eq_true (by omega)
          have a2 : decide (x < F + N') = true := decide_eq_true (by omega)
          rw [a1, a2]
        rw [e1, range_between F N' n (by omega), List.range'_concat]
        have hn : n = F + N' := by omega
        subst hn
        simp
    · rw [List.range_succ, List.filter_append, range_between F N n (by omega)]
      have : decide (n < F + N) = false := decide_eq_false (by omega)
      simp [this]
theorem map_range' (l : List C.Cl) (F N : Nat) (h : F + N ≤ l.length) : (List.range' F N).map (fun i => l.getD i C.null) = (l.drop F).take N := by
  apply List.ext_getElem
  · simp; omega
  · intro i h1 h2
    simp at h1
    simp [List.getD]
    rw [List.getElem?_eq_getElem (by omega)]
    simp
theorem sli_hits {t : Tb.T} (h : Tb.Ok t) (f m : Int) (hf : 0 ≤ f) (hm : 0 ≤ m) : Tb.picked t (hitsF (sliF f m) (Tb.rows t)) = Tb.sli t f m := by
  unfold Tb.picked Tb.sli
  congr 1
  refine Tb.map_congr' fun l hl => ?_
  have hll := h.lens l hl
  have e : hitsF (sliF f m) (Tb.rows t) = List.range' (Tb.sliF t f) (Tb.sliN t f m) := by
    unfold hitsF
    rw [← range_between (Tb.sliF t f) (Tb.sliN t f m) (Tb.rows t) (by unfold Tb.sliN Tb.sliF; omega)]
    refine List.filter_congr fun x hx => ?_
    have hxr := List.mem_range.1 hx
    unfold sliF
    have a1 : (f ≤ (x : Int)) ↔ (Tb.sliF t f ≤ x) := by unfold Tb.sliF; omega
    by_cases h1 : f ≤ (x : Int)
    · have h1' := a1.1 h1
      have a2 : ((x : Int) - f < m) ↔ (x < Tb.sliF t f + Tb.sliN t f m) := by unfold Tb.sliN Tb.sliF; unfold Tb.sliF at h1'; omega
      rw [decide_eq_true h1, decide_eq_true h1']
      by_cases h2 : (x : Int) - f < m
      · rw [decide_eq_true h2, decide_eq_true (a2.1 h2)]
      · rw [decide_eq_false h2, decide_eq_false (fun e => h2 (a2.2 e))]
    · rw [decide_eq_false h1, decide_eq_false (fun e => h1 (a1.2 e))]; rfl
  rw [e]
  exact map_range' l _ _ (by rw [hll]; unfold Tb.sliN Tb.sliF; omega)
theorem kinds_ok {t : Tb.T} (h : ∀ c ∈ t.cols, gOk c) : ∀ k ∈ Tb.kinds t, -9223372036854775808 ≤ k ∧ k ≤ 9223372036854775807 := fun k hk => by
  obtain ⟨c, hc, rfl⟩ := List.mem_map.1 hk
  exact (h c hc).2
theorem data_ok {w : World} {a : Option Addr} {l : List (List C.Cl)} (h : Dat w w.heap.size a l) (i : Nat) (hi : i < l.length) : ∀ x ∈ l.getD i [], cOk x := by
  obtain ⟨b, off, _, _, hdd⟩ := h (fun e => by rw [e] at hi; simp at hi)
  obtain ⟨ai, ci, _, hri⟩ := hdd i hi
  exact hri.ok
theorem row_ok {t : Tb.T} (hok : Tb.Ok t) (hd : ∀ i, i < t.data.length → ∀ x ∈ t.data.getD i [], cOk x) (j : Nat) (hj : j < Tb.rows t) : ∀ x ∈ Tb.rowAt t j, cOk x := by
  intro x hx
  unfold Tb.rowAt at hx
  obtain ⟨l, hl, rfl⟩ := List.mem_map.1 hx
  obtain ⟨i, hi, rfl⟩ := Tb.mem_getD [] hl
  exact hd i hi _ (cgetD_mem _ _ (by rw [hok.rows i (by have := hok.len; omega)]; exact hj))
set_option maxHeartbeats 4000000 in
set_option maxRecDepth 100000 in
theorem rKeep_any (ca : Option Addr) (cc : Nat) (da : Option Addr) (dc : Nat) (t : Tb.T) (ap : Option Addr) (cp : Nat) (p : List O.Cd) (w : World) (ht : Tbl w w.heap.size ca cc da dc t) (hpm : p.length ≤ maxLen) (hcp : p.length ≤ cp) (hpx : ∀ x ∈ p, dOk x) (hpu : Cds w w.heap.size ap p) :
    Calls Try.prog 31 #[tag ca t.cols.length cc da t.data.length dc, .slice ap p.length cp] w (RTabPost (Tb.chg t (Tb.keepE t p) (Tb.keep t p)) w) := by
  have a0 : Below w.heap.size w (w.alloc (.cells #[Value.slice ca t.cols.length cc, Value.slice da t.data.length dc] 25)) := (Below.refl _ _).alloc (Nat.le_refl _) _
  have a1 : Below (w.alloc (.cells #[Value.slice ca t.cols.length cc, Value.slice da t.data.length dc] 25)).heap.size (w.alloc (.cells #[Value.slice ca t.cols.length cc, Value.slice da t.data.length dc] 25)) ((w.alloc (.cells #[Value.slice ca t.cols.length cc, Value.slice da t.data.length dc] 25)).alloc (.cells #[Value.slice none 0 0, Value.slice none 0 0] 25)) := (Below.refl _ _).alloc (Nat.le_refl _) _
  have hP := (Two.next (two_new w 25 (Value.slice ca t.cols.length cc) (Value.slice da t.data.length dc)) a1)
  have hR := (two_new (w.alloc (.cells #[Value.slice ca t.cols.length cc, Value.slice da t.data.length dc] 25)) 25 (Value.slice none 0 0) (Value.slice none 0 0))
  rw [show (w.alloc (.cells #[Value.slice ca t.cols.length cc, Value.slice da t.data.length dc] 25)).heap.size = w.heap.size + 1 by simp] at hR
  have hal := (below_then a0 a1)
  have hsz : ((w.alloc (.cells #[Value.slice ca t.cols.length cc, Value.slice da t.data.length dc] 25)).alloc (.cells #[Value.slice none 0 0, Value.slice none 0 0] 25)).heap.size = w.heap.size + 2 := by simp
  have HTT := Lib.hid (ht.next hal)
  have HT0 := Lib.hid ht
  have HPU := Lib.hid (hpu.next at5_firm hal)
  have HKO := Lib.hid (kinds_ok ht.gOk)
  have HP := Lib.hid hP
  have HR := Lib.hid hR
  have HAL := Lib.hid hal
  have HSZ := Lib.hid hsz
  clear hal hsz hP hR a0 a1 ht hpu
  generalize hW : ((w.alloc (.cells #[Value.slice ca t.cols.length cc, Value.slice da t.data.length dc] 25)).alloc (.cells #[Value.slice none 0 0, Value.slice none 0 0] 25)) = W1 at *
  have HW := Lib.hid hW
  clear hW
  have HT := Lib.hid (fun W (hb : Below W1.heap.size W1 W) => rTable_any ca cc da dc t W (HTT.out.next hb))
  by_cases h0 : Tb.check t ≠ 0
  · rw [chg_bad h0]
    have g0 : ((Tb.check t : Int) == 0) = false := by rw [beq_eq_false_iff_ne]; omega
    have g1 : ((Tb.check t : Int) != 0) = true := by rw [bne_iff_ne]; omega
    generalize Tb.check t = er at *
    go_enter Try.func31, Try.ntmps31
    go_wp2_with fail
    rw [HW.out]
    have b_w := Below.refl W1.heap.size W1
    have cP0 := (HP.out.next b_w).c0
    have cP1 := (HP.out.next b_w).c1
    go_wp2_with fail
    refine (HT.out _ b_w).mono ?_
    rintro e w1 ⟨rfl, hbn⟩
    have b_w := below_then b_w hbn
    clear hbn
    clear cP0 cP1
    have q0 := HR.out.next b_w
    have q1 := q0.s0 (.slice none 0 0)
    have q2 := q1.s1 (.slice none 0 0)
    have b0 := q0.c0
    have f0 := q0.free 0
    have b1 := q1.c1
    have f1 := q1.free 1
    have y0 := q2.c0
    have y1 := q2.c1
    have hrb : w.heap.size ≤ w.heap.size + 1 := by omega
    have HB3 := Lib.hid (((below_then HAL.out b_w).setCell (p := ⟨w.heap.size + 1, 0, none⟩) hrb (.slice none 0 0)).setCell (p := ⟨w.heap.size + 1, 1, none⟩) hrb (.slice none 0 0))
    clear q0 q1 q2
    go_wp2_with fail
    refine bodyPost_ret (v := .tuple #[tag none 0 0 none 0 0, .int .i64 (er : Int)]) (by simp [results, Try.results31, go_sem, y0, y1]) rfl ?_
    exact ⟨_, _, _, _, rfl, Tbl.null _ _, HB3.out⟩
  have h0 : Tb.check t = 0 := Classical.not_not.1 h0
  have hok := Tb.check_ok h0
  have HT := Lib.hid (fun W (hb : Below W1.heap.size W1 W) => show Calls Try.prog 15 #[tag ca t.cols.length cc da t.data.length dc] W (CErrPost 0 W) by have := HT.out W hb; rwa [h0] at this)
  have h6 := hok.six
  have HLEN := Lib.hid hok.len
  have hrl128 := hok.rows_le
  have hdl6 : t.data.length ≤ 6 := by rw [hok.len]; exact h6
  have HRO := Lib.hid (fun i (hi : i < t.data.length) => hok.rows i (by rw [← hok.len]; exact hi))
  have HROWS := Lib.hid (fun W (hb : Below W1.heap.size W1 W) => rowsOf_any ca cc da dc t W (HTT.out.next hb))
  have HKI := Lib.hid (fun W (hb : Below W1.heap.size W1 W) => rKinds_any ca cc t.cols W (by omega) (HTT.out.next hb).gls)
  have hk2 : t.cols.map Tb.Col.kind = Tb.kinds t := rfl
  rw [hk2] at HKI
  have hkl := Tb.kinds_len' t
  have HCK := Lib.hid (fun W a c (hb : Below W1.heap.size W1 W) (hu : Ints W W.heap.size a (Tb.kinds t)) => show Calls Try.prog 72 #[.slice ap p.length cp, .slice a t.cols.length c] W (CErrPost (O.check p (Tb.kinds t)) W) by
    have := ccheck_any ap cp p a c (Tb.kinds t) W hpm hpx (HPU.out.next at5_firm hb) HKO.out (by rw [hkl]; unfold maxLen; omega) hu
    rwa [hkl] at this)
  have HKL := Lib.hid hkl
  have hE : Tb.keepE t p = O.check p (Tb.kinds t) := rfl
  by_cases h1 : O.check p (Tb.kinds t) ≠ 0
  · rw [chg_err h0 (by rw [hE]; exact h1), hE]
    have g1 : ((O.check p (Tb.kinds t) : Int) != 0) = true := by rw [bne_iff_ne]; omega
    generalize O.check p (Tb.kinds t) = er at *
    clear hkl
    go_enter Try.func31, Try.ntmps31
    go_wp2_with fail
    rw [HW.out]
    have b_w := Below.refl W1.heap.size W1
    have cP0 := (HP.out.next b_w).c0
    have cP1 := (HP.out.next b_w).c1
    go_wp2_with fail
    refine (HT.out _ b_w).mono ?_
    rintro e w1 ⟨rfl, hbn⟩
    have b_w := below_then b_w hbn
    clear hbn
    clear cP0 cP1
    have cP0 := (HP.out.next b_w).c0
    have cP1 := (HP.out.next b_w).c1
    go_wp2_with fail
    refine (HKI.out _ b_w).mono ?_
    rintro e w2 ⟨vk, rfl, hrk, hbn⟩
    have b_w := below_then b_w hbn
    clear hbn
    clear cP0 cP1
    obtain ⟨ka, kc, rfl, hku⟩ := krow_ints hrk
    rw [HKL.out]
    clear hrk
    go_wp2_with fail
    refine (HCK.out _ _ _ b_w hku).mono ?_
    rintro e w3 ⟨rfl, hbn⟩
    have b_w := below_then b_w hbn
    clear hbn
    have q0 := HR.out.next b_w
    have q1 := q0.s0 (.slice none 0 0)
    have q2 := q1.s1 (.slice none 0 0)
    have b0 := q0.c0
    have f0 := q0.free 0
    have b1 := q1.c1
    have f1 := q1.free 1
    have y0 := q2.c0
    have y1 := q2.c1
    have hrb : w.heap.size ≤ w.heap.size + 1 := by omega
    have HB3 := Lib.hid (((below_then HAL.out b_w).setCell (p := ⟨w.heap.size + 1, 0, none⟩) hrb (.slice none 0 0)).setCell (p := ⟨w.heap.size + 1, 1, none⟩) hrb (.slice none 0 0))
    clear q0 q1 q2
    go_wp2_with fail
    refine bodyPost_ret (v := .tuple #[tag none 0 0 none 0 0, .int .i64 (er : Int)]) (by simp [results, Try.results31, go_sem, y0, y1]) rfl ?_
    exact ⟨_, _, _, _, rfl, Tbl.null _ _, HB3.out⟩
  have h1 : O.check p (Tb.kinds t) = 0 := Classical.not_not.1 h1
  rw [Tb.chg_ok h0 (hE.trans h1)]
  rw [h1] at HCK
  have HOKX := Lib.hid (row_ok hok (fun i hi => data_ok HT0.out.dat i hi))
  have HCO := Lib.hid (fun i (hi : i < Tb.rows t) W a c (hb : Below W1.heap.size W1 W) (hu : Cls W W.heap.size a (Tb.rowAt t i)) => show Calls Try.prog 73 #[.slice ap p.length cp, .slice a t.data.length c] W (CErrPost (O.askR p (Tb.kinds t) (Tb.rowAt t i)).1 W) from rCond_row hok h1 hi hpx ap cp hcp W (HPU.out.next at5_firm hb) a c (HOKX.out i hi) hu)
  have HRAT := Lib.hid (fun i (hi : i < Tb.rows t) W (hb : Below W1.heap.size W1 W) => rRowAt_any ca cc da dc t i W (HTT.out.next hb) (by omega) (fun x hx => by rw [HRO.out x hx]; exact hi))
  have HRL := Lib.hid (fun i => show (Tb.rowAt t i).length = t.data.length by simp [Tb.rowAt])
  have HTRU := Lib.hid (fun i => @tru_of t p i)
  have HRES := Lib.hid (keep_hits hok p)
  have HRC := Lib.hid (show (Tb.keep t p).cols = t.cols from rfl)
  generalize Tb.keep t p = RR at *
  clear hkl hE h0 hok h1
  go_enter Try.func31, Try.ntmps31
  go_wp2_with fail
  rw [HW.out]
  have b_w := Below.refl W1.heap.size W1
  have cP0 := (HP.out.next b_w).c0
  have cP1 := (HP.out.next b_w).c1
  go_wp2_with fail
  refine (HT.out _ b_w).mono ?_
  rintro e w1 ⟨rfl, hbn⟩
  have b_w := below_then b_w hbn
  clear hbn
  clear cP0 cP1
  have cP0 := (HP.out.next b_w).c0
  have cP1 := (HP.out.next b_w).c1
  go_wp2_with fail
  refine (HKI.out _ b_w).mono ?_
  rintro e w2 ⟨vk, rfl, hrk, hbn⟩
  have b_w := below_then b_w hbn
  clear hbn
  clear cP0 cP1
  obtain ⟨ka, kc, rfl, hku⟩ := krow_ints hrk
  rw [HKL.out]
  clear hrk
  go_wp2_with fail
  refine (HCK.out _ _ _ b_w hku).mono ?_
  rintro e w3 ⟨rfl, hbn⟩
  have b_w := below_then b_w hbn
  clear hbn
  go_wp2_with fail
  have b_w0 := b_w
  go_loopw [7, 8] (fun v i wr => ∃ j : Nat, j ≤ Tb.rows t ∧ i = .int .i64 j ∧ Hid (KRow W1.heap.size (nI (hitsF (Tb.tru t p) j)) v wr) ∧ Below W1.heap.size W1 wr) (fun _ i _ => Tb.rows t - (intOf i).toNat)
  case atStart => exact ⟨0, by omega, rfl, Lib.hid (knilRow _ _), b_w0⟩
  clear b_w0
  case round =>
    obtain ⟨j, hj, rfl, HK, hbw⟩ := hrel
    have b_w := hbw
    have b_r := Below.refl wr.heap.size wr
    clear hbw
    have cP0 := (HP.out.next b_w).c0
    have cP1 := (HP.out.next b_w).c1
    go_wp2_with fail
    refine (HROWS.out _ b_w).mono ?_
    rintro e wa ⟨rfl, hbn⟩
    have b_w := below_then b_w hbn
    have b_r := below_then b_r hbn
    clear hbn
    clear cP0 cP1
    by_cases hlt : j < Tb.rows t
    · have hjI : (j : Int) < (Tb.rows t : Int) := by omega
      have cP0 := (HP.out.next b_w).c0
      have cP1 := (HP.out.next b_w).c1
      go_wp2_with fail
      refine (HRAT.out j hlt _ b_w).mono ?_
      rintro e wb ⟨vr, rfl, hrow, hbn⟩
      have b_w := below_then b_w hbn
      have b_r := below_then b_r hbn
      clear hbn
      clear cP0 cP1
      obtain ⟨ra, rc, rfl, hcu, -⟩ := cRow_cls hrow
      rw [HRL.out]
      clear hrow
      go_wp2_with fail
      refine (HCO.out j hlt _ _ _ b_w hcu).mono ?_
      rintro e wc ⟨rfl, hbn⟩
      have b_w := below_then b_w hbn
      have b_r := below_then b_r hbn
      clear hbn
      clear hcu
      have htq := HTRU.out j
      generalize (O.askR p (Tb.kinds t) (Tb.rowAt t j)).1 = x at *
      have HK := Lib.hid (HK.out.below b_r)
      by_cases hx2 : x = 2
      · have g8 : ((x : Int) == 2) = true := by rw [beq_iff_eq]; omega
        have htr : Tb.tru t p j = true := by rw [htq]; exact decide_eq_true hx2
        clear htq hx2
        have hst : nI (hitsF (Tb.tru t p) (j + 1)) = nI (hitsF (Tb.tru t p) j) ++ [(j : Int)] := by rw [hitsF_step, if_pos htr, nI_snoc]
        have HST := Lib.hid hst
        have HROW2 := Lib.hid (HK.out.below ((Below.refl _ _).alloc (Nat.le_refl _) (.cells #[.int .i64 (j : Int)] 3)))
        have hlb : ((nI (hitsF (Tb.tru t p) j)).length + 1) * 8 ≤ 140737488355328 := by have := hitsF_len (Tb.tru t p) j; rw [nI_len]; omega
        have hb5 : W1.heap.size ≤ (wc.alloc (.cells #[.int .i64 (j : Int)] 3)).heap.size := by have := b_w.size; simp; omega
        have HB5 := Lib.hid (b_w.alloc b_w.size (.cells #[.int .i64 (j : Int)] 3))
        have HCN := Lib.hid (show (wc.alloc (.cells #[.int .i64 (j : Int)] 3)).cell? ⟨wc.heap.size, 0, none⟩ = some (.int .i64 (j : Int)) from World.cell?_alloc_new _ _ _ _)
        clear hst htr
        go_wp2_with (at_builtin; refine wpList_append_k rfl (.tmp 34) (.tmp 36) rfl W1.heap.size _ (nI (hitsF (Tb.tru t p) j)) rfl HROW2.out wc.heap.size (j : Int) rfl HCN.out hlb hb5 ?_)
        intro v' w5 hown5 hb5w
        have hbw5 := HB5.out.trans hb5w
        clear hb5w
        go_wp2_with fail
        exact ⟨⟨j + 1, by omega, by go_num, Lib.hid (by rw [HST.out]; exact hown5), hbw5⟩, by simp [intOf]; omega⟩
      · have g8 : ((x : Int) == 2) = false := by rw [beq_eq_false_iff_ne]; omega
        have htr : Tb.tru t p j = false := by rw [htq]; exact decide_eq_false hx2
        have hst : nI (hitsF (Tb.tru t p) (j + 1)) = nI (hitsF (Tb.tru t p) j) := by rw [hitsF_step, if_neg (by rw [htr]; simp), List.append_nil]
        have HST := Lib.hid hst
        clear htq hx2 hst htr
        go_wp2_with fail
        exact ⟨⟨j + 1, by omega, by go_num, Lib.hid (by rw [HST.out]; exact HK.out), b_w⟩, by simp [intOf]; omega⟩
    · have hjr : j = Tb.rows t := by omega
      have hjI : ¬ (j : Int) < (Tb.rows t : Int) := by omega
      have HK := Lib.hid (HK.out.below b_r)
      rw [hjr] at HK
      obtain ⟨ka, kc, hform, hku⟩ := krow_ints HK.out
      rw [nI_len] at hform
      subst hform
      have hpk := rPicked_any ca cc da dc t ka kc (hitsF (Tb.tru t p) (Tb.rows t)) wa (HTT.out.next b_w) (by have := hitsF_len (Tb.tru t p) (Tb.rows t); omega) hdl6 (fun i hi x hx => by rw [HRO.out i hi]; exact hitsF_lt _ _ x hx) hku
      rw [HRES.out] at hpk
      have b_w0 := b_w
      have cP0 := (HP.out.next b_w).c0
      have cP1 := (HP.out.next b_w).c1
      go_wp2_with fail
      refine hpk.mono ?_
      clear hpk
      rintro e w9 ⟨rd, re, rfl, hfd, hdc, hbn⟩
      have hrbl : w.heap.size + 1 < wa.heap.size := by have := HSZ.out; have := b_w0.size; omega
      have HFD := Lib.hid hfd
      have b_w := below_then b_w hbn
      clear hfd hbn b_w0
      clear cP0 cP1
      have q0 := HR.out.next b_w
      have q1 := q0.s0 (.slice ca RR.cols.length cc)
      have q2 := q1.s1 (.slice rd RR.data.length re)
      have b0 := q0.c0
      have f0 := q0.free 0
      have b1 := q1.c1
      have f1 := q1.free 1
      have y0 := q2.c0
      have y1 := q2.c1
      have hrb : w.heap.size ≤ w.heap.size + 1 := by omega
      have HB3 := Lib.hid (((below_then HAL.out b_w).setCell (p := ⟨w.heap.size + 1, 0, none⟩) hrb (.slice ca RR.cols.length cc)).setCell (p := ⟨w.heap.size + 1, 1, none⟩) hrb (.slice rd RR.data.length re))
      clear q0 q1 q2
      go_wp2_with fail
      refine bodyPost_ret (v := .tuple #[tag ca RR.cols.length cc rd RR.data.length re, .int .i64 0]) (by simp [results, Try.results31, go_sem, y0, y1]) rfl ?_
      have htn := HT0.out.next HB3.out
      refine ⟨_, _, _, _, rfl, ⟨(by have h9 := htn.gls; rw [← HRC.out] at h9; exact h9), HFD.out _ (fun z hz1 hz2 => by rw [heap_set _ _ _ _ (by simp; omega), heap_set _ _ _ _ (by simp; omega)]) (by simp), (by have h9 := htn.gOk; rw [← HRC.out] at h9; exact h9), (by have h9 := htn.ccap; rw [← HRC.out] at h9; exact h9), hdc⟩, HB3.out⟩

set_option maxHeartbeats 4000000 in
set_option maxRecDepth 100000 in
theorem rSlice_any (ca : Option Addr) (cc : Nat) (da : Option Addr) (dc : Nat) (t : Tb.T) (f m : Int) (w : World) (ht : Tbl w w.heap.size ca cc da dc t) (hf : -9223372036854775808 ≤ f ∧ f ≤ 9223372036854775807) (hm : -9223372036854775808 ≤ m ∧ m ≤ 9223372036854775807) :
    Calls Try.prog 33 #[tag ca t.cols.length cc da t.data.length dc, .int .i64 f, .int .i64 m] w (RTabPost (Tb.chg t (Tb.sliE f m) (Tb.sli t f m)) w) := by
  have a0 : Below w.heap.size w (w.alloc (.cells #[Value.slice ca t.cols.length cc, Value.slice da t.data.length dc] 25)) := (Below.refl _ _).alloc (Nat.le_refl _) _
  have a1 : Below (w.alloc (.cells #[Value.slice ca t.cols.length cc, Value.slice da t.data.length dc] 25)).heap.size (w.alloc (.cells #[Value.slice ca t.cols.length cc, Value.slice da t.data.length dc] 25)) ((w.alloc (.cells #[Value.slice ca t.cols.length cc, Value.slice da t.data.length dc] 25)).alloc (.cells #[Value.slice none 0 0, Value.slice none 0 0] 25)) := (Below.refl _ _).alloc (Nat.le_refl _) _
  have hP := (Two.next (two_new w 25 (Value.slice ca t.cols.length cc) (Value.slice da t.data.length dc)) a1)
  have hR := (two_new (w.alloc (.cells #[Value.slice ca t.cols.length cc, Value.slice da t.data.length dc] 25)) 25 (Value.slice none 0 0) (Value.slice none 0 0))
  rw [show (w.alloc (.cells #[Value.slice ca t.cols.length cc, Value.slice da t.data.length dc] 25)).heap.size = w.heap.size + 1 by simp] at hR
  have hal := (below_then a0 a1)
  have hsz : ((w.alloc (.cells #[Value.slice ca t.cols.length cc, Value.slice da t.data.length dc] 25)).alloc (.cells #[Value.slice none 0 0, Value.slice none 0 0] 25)).heap.size = w.heap.size + 2 := by simp
  have HTT := Lib.hid (ht.next hal)
  have HT0 := Lib.hid ht
  have HP := Lib.hid hP
  have HR := Lib.hid hR
  have HAL := Lib.hid hal
  have HSZ := Lib.hid hsz
  clear hal hsz hP hR a0 a1 ht
  generalize hW : ((w.alloc (.cells #[Value.slice ca t.cols.length cc, Value.slice da t.data.length dc] 25)).alloc (.cells #[Value.slice none 0 0, Value.slice none 0 0] 25)) = W1 at *
  have HW := Lib.hid hW
  clear hW
  have HT := Lib.hid (fun W (hb : Below W1.heap.size W1 W) => rTable_any ca cc da dc t W (HTT.out.next hb))
  by_cases h0 : Tb.check t ≠ 0
  · rw [chg_bad h0]
    have g0 : ((Tb.check t : Int) == 0) = false := by rw [beq_eq_false_iff_ne]; omega
    have g1 : ((Tb.check t : Int) != 0) = true := by rw [bne_iff_ne]; omega
    generalize Tb.check t = er at *
    go_enter Try.func33, Try.ntmps33
    go_wp2_with fail
    rw [HW.out]
    have b_w := Below.refl W1.heap.size W1
    have cP0 := (HP.out.next b_w).c0
    have cP1 := (HP.out.next b_w).c1
    go_wp2_with fail
    refine (HT.out _ b_w).mono ?_
    rintro e w1 ⟨rfl, hbn⟩
    have b_w := below_then b_w hbn
    clear hbn
    clear cP0 cP1
    have q0 := HR.out.next b_w
    have q1 := q0.s0 (.slice none 0 0)
    have q2 := q1.s1 (.slice none 0 0)
    have b0 := q0.c0
    have f0 := q0.free 0
    have b1 := q1.c1
    have f1 := q1.free 1
    have y0 := q2.c0
    have y1 := q2.c1
    have hrb : w.heap.size ≤ w.heap.size + 1 := by omega
    have HB3 := Lib.hid (((below_then HAL.out b_w).setCell (p := ⟨w.heap.size + 1, 0, none⟩) hrb (.slice none 0 0)).setCell (p := ⟨w.heap.size + 1, 1, none⟩) hrb (.slice none 0 0))
    clear q0 q1 q2
    go_wp2_with fail
    refine bodyPost_ret (v := .tuple #[tag none 0 0 none 0 0, .int .i64 (er : Int)]) (by simp [results, Try.results33, go_sem, y0, y1]) rfl ?_
    exact ⟨_, _, _, _, rfl, Tbl.null _ _, HB3.out⟩
  have h0 : Tb.check t = 0 := Classical.not_not.1 h0
  have hok := Tb.check_ok h0
  have HT := Lib.hid (fun W (hb : Below W1.heap.size W1 W) => show Calls Try.prog 15 #[tag ca t.cols.length cc da t.data.length dc] W (CErrPost 0 W) by have := HT.out W hb; rwa [h0] at this)
  have h6 := hok.six
  have HLEN := Lib.hid hok.len
  have hrl128 := hok.rows_le
  have hdl6 : t.data.length ≤ 6 := by rw [hok.len]; exact h6
  have HRO := Lib.hid (fun i (hi : i < t.data.length) => hok.rows i (by rw [← hok.len]; exact hi))
  have HROWS := Lib.hid (fun W (hb : Below W1.heap.size W1 W) => rowsOf_any ca cc da dc t W (HTT.out.next hb))
  have hE : Tb.sliE f m = if f < 0 ∨ m < 0 then 3 else 0 := rfl
  by_cases hf0 : f < 0
  · rw [if_pos (Or.inl hf0)] at hE
    rw [chg_err h0 (by rw [hE]; simp), hE]
    have g2 : decide (f < 0) = true := decide_eq_true hf0
    clear hE h0 hok
    go_enter Try.func33, Try.ntmps33
    go_wp2_with fail
    rw [HW.out]
    have b_w := Below.refl W1.heap.size W1
    have cP0 := (HP.out.next b_w).c0
    have cP1 := (HP.out.next b_w).c1
    go_wp2_with fail
    refine (HT.out _ b_w).mono ?_
    rintro e w1 ⟨rfl, hbn⟩
    have b_w := below_then b_w hbn
    clear hbn
    clear cP0 cP1
    have q0 := HR.out.next b_w
    have q1 := q0.s0 (.slice none 0 0)
    have q2 := q1.s1 (.slice none 0 0)
    have b0 := q0.c0
    have f0 := q0.free 0
    have b1 := q1.c1
    have f1 := q1.free 1
    have y0 := q2.c0
    have y1 := q2.c1
    have hrb : w.heap.size ≤ w.heap.size + 1 := by omega
    have HB3 := Lib.hid (((below_then HAL.out b_w).setCell (p := ⟨w.heap.size + 1, 0, none⟩) hrb (.slice none 0 0)).setCell (p := ⟨w.heap.size + 1, 1, none⟩) hrb (.slice none 0 0))
    clear q0 q1 q2
    go_wp2_with fail
    refine bodyPost_ret (v := .tuple #[tag none 0 0 none 0 0, .int .i64 3]) (by simp [results, Try.results33, go_sem, y0, y1]) rfl ?_
    exact ⟨_, _, _, _, rfl, Tbl.null _ _, HB3.out⟩
  have g2 : decide (f < 0) = false := decide_eq_false hf0
  by_cases hm0 : m < 0
  · rw [if_pos (Or.inr hm0)] at hE
    rw [chg_err h0 (by rw [hE]; simp), hE]
    have g3 : decide (m < 0) = true := decide_eq_true hm0
    clear hE h0 hok
    go_enter Try.func33, Try.ntmps33
    go_wp2_with fail
    rw [HW.out]
    have b_w := Below.refl W1.heap.size W1
    have cP0 := (HP.out.next b_w).c0
    have cP1 := (HP.out.next b_w).c1
    go_wp2_with fail
    refine (HT.out _ b_w).mono ?_
    rintro e w1 ⟨rfl, hbn⟩
    have b_w := below_then b_w hbn
    clear hbn
    clear cP0 cP1
    have q0 := HR.out.next b_w
    have q1 := q0.s0 (.slice none 0 0)
    have q2 := q1.s1 (.slice none 0 0)
    have b0 := q0.c0
    have f0 := q0.free 0
    have b1 := q1.c1
    have f1 := q1.free 1
    have y0 := q2.c0
    have y1 := q2.c1
    have hrb : w.heap.size ≤ w.heap.size + 1 := by omega
    have HB3 := Lib.hid (((below_then HAL.out b_w).setCell (p := ⟨w.heap.size + 1, 0, none⟩) hrb (.slice none 0 0)).setCell (p := ⟨w.heap.size + 1, 1, none⟩) hrb (.slice none 0 0))
    clear q0 q1 q2
    go_wp2_with fail
    refine bodyPost_ret (v := .tuple #[tag none 0 0 none 0 0, .int .i64 3]) (by simp [results, Try.results33, go_sem, y0, y1]) rfl ?_
    exact ⟨_, _, _, _, rfl, Tbl.null _ _, HB3.out⟩
  have g3 : decide (m < 0) = false := decide_eq_false hm0
  rw [if_neg (by omega)] at hE
  rw [Tb.chg_ok h0 hE]
  have HRES := Lib.hid (sli_hits hok f m (by omega) (by omega))
  have HRC := Lib.hid (show (Tb.sli t f m).cols = t.cols from rfl)
  generalize Tb.sli t f m = RR at *
  clear hE h0 hok
  go_enter Try.func33, Try.ntmps33
  go_wp2_with fail
  rw [HW.out]
  have b_w := Below.refl W1.heap.size W1
  have cP0 := (HP.out.next b_w).c0
  have cP1 := (HP.out.next b_w).c1
  go_wp2_with fail
  refine (HT.out _ b_w).mono ?_
  rintro e w1 ⟨rfl, hbn⟩
  have b_w := below_then b_w hbn
  clear hbn
  clear cP0 cP1
  go_wp2_with fail
  have b_w0 := b_w
  go_loopw [9, 10] (fun v i wr => ∃ j : Nat, j ≤ Tb.rows t ∧ i = .int .i64 j ∧ Hid (KRow W1.heap.size (nI (hitsF (sliF f m) j)) v wr) ∧ Below W1.heap.size W1 wr) (fun _ i _ => Tb.rows t - (intOf i).toNat)
  case atStart => exact ⟨0, by omega, rfl, Lib.hid (knilRow _ _), b_w0⟩
  clear b_w0
  case round =>
    obtain ⟨j, hj, rfl, HK, hbw⟩ := hrel
    have b_w := hbw
    have b_r := Below.refl wr.heap.size wr
    clear hbw
    have cP0 := (HP.out.next b_w).c0
    have cP1 := (HP.out.next b_w).c1
    go_wp2_with fail
    refine (HROWS.out _ b_w).mono ?_
    rintro e wa ⟨rfl, hbn⟩
    have b_w := below_then b_w hbn
    have b_r := below_then b_r hbn
    clear hbn
    clear cP0 cP1
    by_cases hlt : j < Tb.rows t
    · have hjI : (j : Int) < (Tb.rows t : Int) := by omega
      have HK := Lib.hid (HK.out.below b_r)
      by_cases h1 : f ≤ (j : Int)
      · have g4 : decide (f ≤ (j : Int)) = true := decide_eq_true h1
        have g5 : IntKind.i64.wrap ((j : Int) - f) = (j : Int) - f := by rw [IntKind.wrap_i64]; omega
        by_cases h2 : (j : Int) - f < m
        · have g6 : decide ((j : Int) - f < m) = true := decide_eq_true h2
          have htr : sliF f m j = true := by unfold sliF; rw [g4, g6]; rfl
          have hst : nI (hitsF (sliF f m) (j + 1)) = nI (hitsF (sliF f m) j) ++ [(j : Int)] := by rw [hitsF_step, if_pos htr, nI_snoc]
          have HST := Lib.hid hst
          have HROW2 := Lib.hid (HK.out.below ((Below.refl _ _).alloc (Nat.le_refl _) (.cells #[.int .i64 (j : Int)] 3)))
          have hlb : ((nI (hitsF (sliF f m) j)).length + 1) * 8 ≤ 140737488355328 := by have := hitsF_len (sliF f m) j; rw [nI_len]; omega
          have hb5 : W1.heap.size ≤ (wa.alloc (.cells #[.int .i64 (j : Int)] 3)).heap.size := by have := b_w.size; simp; omega
          have HB5 := Lib.hid (b_w.alloc b_w.size (.cells #[.int .i64 (j : Int)] 3))
          have HCN := Lib.hid (show (wa.alloc (.cells #[.int .i64 (j : Int)] 3)).cell? ⟨wa.heap.size, 0, none⟩ = some (.int .i64 (j : Int)) from World.cell?_alloc_new _ _ _ _)
          clear hst htr
          go_wp2_with (at_builtin; refine wpList_append_k rfl (.tmp 43) (.tmp 45) rfl W1.heap.size _ (nI (hitsF (sliF f m) j)) rfl HROW2.out wa.heap.size (j : Int) rfl HCN.out hlb hb5 ?_)
          intro v' w5 hown5 hb5w
          have hbw5 := HB5.out.trans hb5w
          clear hb5w
          go_wp2_with fail
          exact ⟨⟨j + 1, by omega, by go_num, Lib.hid (by rw [HST.out]; exact hown5), hbw5⟩, by simp [intOf]; omega⟩
        · have g6 : decide ((j : Int) - f < m) = false := decide_eq_false h2
          have htr : sliF f m j = false := by unfold sliF; rw [g4, g6]; rfl
          have hst : nI (hitsF (sliF f m) (j + 1)) = nI (hitsF (sliF f m) j) := by rw [hitsF_step, if_neg (by rw [htr]; simp), List.append_nil]
          have HST := Lib.hid hst
          clear hst htr
          go_wp2_with fail
          exact ⟨⟨j + 1, by omega, by go_num, Lib.hid (by rw [HST.out]; exact HK.out), b_w⟩, by simp [intOf]; omega⟩
      · have g4 : decide (f ≤ (j : Int)) = false := decide_eq_false h1
        have htr : sliF f m j = false := by unfold sliF; rw [g4]; rfl
        have hst : nI (hitsF (sliF f m) (j + 1)) = nI (hitsF (sliF f m) j) := by rw [hitsF_step, if_neg (by rw [htr]; simp), List.append_nil]
        have HST := Lib.hid hst
        clear hst htr
        go_wp2_with fail
        exact ⟨⟨j + 1, by omega, by go_num, Lib.hid (by rw [HST.out]; exact HK.out), b_w⟩, by simp [intOf]; omega⟩
    · have hjr : j = Tb.rows t := by omega
      have hjI : ¬ (j : Int) < (Tb.rows t : Int) := by omega
      have HK := Lib.hid (HK.out.below b_r)
      rw [hjr] at HK
      obtain ⟨ka, kc, hform, hku⟩ := krow_ints HK.out
      rw [nI_len] at hform
      subst hform
      have hpk := rPicked_any ca cc da dc t ka kc (hitsF (sliF f m) (Tb.rows t)) wa (HTT.out.next b_w) (by have := hitsF_len (sliF f m) (Tb.rows t); omega) hdl6 (fun i hi x hx => by rw [HRO.out i hi]; exact hitsF_lt _ _ x hx) hku
      rw [HRES.out] at hpk
      have b_w0 := b_w
      have cP0 := (HP.out.next b_w).c0
      have cP1 := (HP.out.next b_w).c1
      go_wp2_with fail
      refine hpk.mono ?_
      clear hpk
      rintro e w9 ⟨rd, re, rfl, hfd, hdc, hbn⟩
      have hrbl : w.heap.size + 1 < wa.heap.size := by have := HSZ.out; have := b_w0.size; omega
      have HFD := Lib.hid hfd
      have b_w := below_then b_w hbn
      clear hfd hbn b_w0
      clear cP0 cP1
      have q0 := HR.out.next b_w
      have q1 := q0.s0 (.slice ca RR.cols.length cc)
      have q2 := q1.s1 (.slice rd RR.data.length re)
      have b0 := q0.c0
      have f0 := q0.free 0
      have b1 := q1.c1
      have f1 := q1.free 1
      have y0 := q2.c0
      have y1 := q2.c1
      have hrb : w.heap.size ≤ w.heap.size + 1 := by omega
      have HB3 := Lib.hid (((below_then HAL.out b_w).setCell (p := ⟨w.heap.size + 1, 0, none⟩) hrb (.slice ca RR.cols.length cc)).setCell (p := ⟨w.heap.size + 1, 1, none⟩) hrb (.slice rd RR.data.length re))
      clear q0 q1 q2
      go_wp2_with fail
      refine bodyPost_ret (v := .tuple #[tag ca RR.cols.length cc rd RR.data.length re, .int .i64 0]) (by simp [results, Try.results33, go_sem, y0, y1]) rfl ?_
      have htn := HT0.out.next HB3.out
      refine ⟨_, _, _, _, rfl, ⟨(by have h9 := htn.gls; rw [← HRC.out] at h9; exact h9), HFD.out _ (fun z hz1 hz2 => by rw [heap_set _ _ _ _ (by simp; omega), heap_set _ _ _ _ (by simp; omega)]) (by simp), (by have h9 := htn.gOk; rw [← HRC.out] at h9; exact h9), (by have h9 := htn.ccap; rw [← HRC.out] at h9; exact h9), hdc⟩, HB3.out⟩
end Go.Proofs.Ytnjnalehfhfefaa
