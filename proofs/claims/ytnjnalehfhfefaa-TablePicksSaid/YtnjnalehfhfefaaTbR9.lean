/- The walk of the reference's RedactOf. -/
import Derived.Test.YtnjnalehfhfefaaTbR8
import Derived.Test.YtnjnalehfhfefaaTj
namespace Go.Proofs.Ytnjnalehfhfefaa
open Go.RowKit
set_option linter.unusedVariables false

/-- values of slices, in a block of rows -/
theorem one_of_reads {w : World} {vs : List Value} {l : List (List C.Cl)} (h : Reads w vs l) : ∀ u ∈ vs, u.oneCell' = true := fun u hu => by
  obtain ⟨i, hi, rfl⟩ := List.mem_iff_getElem.1 hu
  obtain ⟨a, c, h1, _⟩ := h.2 i (by rw [← h.1]; exact hi)
  rw [List.getElem?_eq_getElem hi] at h1
  rw [Option.some.inj h1]; rfl
/-- a row's first cells, nulled where the rule says so -/
def redF (f : Nat → Bool) (l : List C.Cl) (j : Nat) : List C.Cl := (List.range j).map fun i => if f i then C.null else l.getD i C.null
theorem redF_step (f : Nat → Bool) (l : List C.Cl) (j : Nat) : redF f l (j + 1) = redF f l j ++ [if f j then C.null else l.getD j C.null] := by
  unfold redF; rw [List.range_succ, List.map_append]; rfl
theorem redF_len (f : Nat → Bool) (l : List C.Cl) (j : Nat) : (redF f l j).length = j := by simp [redF]
theorem rnulled_len : ∀ (l : List C.Cl) (m : List Bool), (Tb.nulled l m).length = l.length
  | [], m => by cases m <;> rfl
  | x :: l, [] => rfl
  | x :: l, b :: m => by show (_ :: Tb.nulled l m).length = _; simp [rnulled_len l m]
theorem rnulled_at : ∀ (l : List C.Cl) (m : List Bool) (i : Nat), i < l.length → i < m.length → (Tb.nulled l m).getD i C.null = if m.getD i false then C.null else l.getD i C.null
  | [], m, i, h, _ => by simp at h
  | x :: l, [], i, _, h => by simp at h
  | x :: l, b :: m, 0, _, _ => by simp [Tb.nulled, List.getD]
  | x :: l, b :: m, i + 1, h1, h2 => by
    exact rnulled_at l m i (by simpa using h1) (by simpa using h2)
theorem redF_nulled (f : Nat → Bool) (l : List C.Cl) : redF f l l.length = Tb.nulled l ((List.range l.length).map f) := by
  apply List.ext_getElem
  · rw [redF_len, rnulled_len]
  · intro i h1 h2
    rw [redF_len] at h1
    have e := rnulled_at l ((List.range l.length).map f) i h1 (by simp; exact h1)
    have e2 : (Tb.nulled l ((List.range l.length).map f)).getD i C.null = (Tb.nulled l ((List.range l.length).map f))[i] := by simp [List.getD, List.getElem?_eq_getElem h2]
    rw [← e2, e]
    simp [redF, List.getD, List.getElem?_eq_getElem h1, List.getElem?_range h1]
theorem reads_set {w : World} {vs : List Value} {l : List (List C.Cl)} (h : Reads w vs l) {q : Nat} (hq : q < l.length) {a : Option Addr} {c : Nat} {r : List C.Cl} (hr : RowIn w w.heap.size a c r) : Reads w (vs.set q (.slice a r.length c)) (l.set q r) := by
  refine ⟨by simp [h.1], fun i hi => ?_⟩
  simp only [List.length_set] at hi
  by_cases hiq : q = i
  · subst hiq
    have e : (l.set q r).getD q [] = r := by simp [List.getD, hi]
    exact ⟨a, c, by rw [e, List.getElem?_set_self (by rw [h.1]; exact hi)], by rw [e]; exact hr⟩
  · have e : (l.set q r).getD i [] = l.getD i [] := by simp [List.getD, List.getElem?_set_ne hiq]
    obtain ⟨x1, x2, x3, x4⟩ := h.2 i hi
    exact ⟨x1, x2, by rw [e, List.getElem?_set_ne hiq]; exact x3, by rw [e]; exact x4⟩
def redTb (B : Nat) (P CV DV : Value) (P1 : Value) (m : Nat) (vs : List Value) : List Item := [
  itC 63 P, itC 64 CV,
  itR 65 (some 5) (RowIt B 34 1 0 []),
  itC 66 P1, itC 67 DV,
  itR 68 (some 6) (RowIt B 34 1 (0 + m) ([] ++ vs)),
  itR 69 (some 8) (fun v S w => ∃ g c, v = .agg #[CV, .slice (some ⟨g, 0, none⟩) (0 + m) c] ∧ S g ∧ w.ownsRow B 34 1 (.slice (some ⟨g, 0, none⟩) (0 + m) c) (0 + m) ([] ++ vs)),
  itR 12 (some 8) (fun v S w => ∃ g, v = .pointer (some ⟨g, 0, none⟩) ∧ S g ∧ Two w g 25 (.slice none 0 0) (.slice none 0 0)),
  ⟨some 12, none, fun _ => True, fun v S w => ∃ H g c, v = .pointer (some ⟨H, 0, none⟩) ∧ B ≤ H ∧ Two w H 25 CV (.slice (some ⟨g, 0, none⟩) (0 + m) c) ∧ w.ownsRow B 34 1 (.slice (some ⟨g, 0, none⟩) (0 + m) c) (0 + m) ([] ++ vs), [7]⟩]
set_option maxHeartbeats 4000000 in
set_option maxRecDepth 100000 in
theorem rRedact_any (ca : Option Addr) (cc : Nat) (da : Option Addr) (dc : Nat) (t : Tb.T) (o : List UInt8) (ap : Option Addr) (cp : Nat) (p : List O.Cd) (w : World) (ht : Tbl w w.heap.size ca cc da dc t) (hpm : p.length ≤ maxLen) (hcp : p.length ≤ cp) (hpx : ∀ x ∈ p, dOk x) (hpu : Cds w w.heap.size ap p) :
    Calls Try.prog 30 #[tag ca t.cols.length cc da t.data.length dc, .string (str o), .slice ap p.length cp] w (RTabPost (Tb.chg t (Tb.redE t o p) (Tb.red t o p)) w) := by
  have a0 : Below w.heap.size w (w.alloc (.cells #[Value.slice ca t.cols.length cc, Value.slice da t.data.length dc] 25)) := (Below.refl _ _).alloc (Nat.le_refl _) _
  have a1 : Below (w.alloc (.cells #[Value.slice ca t.cols.length cc, Value.slice da t.data.length dc] 25)).heap.size (w.alloc (.cells #[Value.slice ca t.cols.length cc, Value.slice da t.data.length dc] 25)) ((w.alloc (.cells #[Value.slice ca t.cols.length cc, Value.slice da t.data.length dc] 25)).alloc (.cells #[Value.slice none 0 0, Value.slice none 0 0] 25)) := (Below.refl _ _).alloc (Nat.le_refl _) _
  have hP := (Two.next (two_new w 25 (Value.slice ca t.cols.length cc) (Value.slice da t.data.length dc)) a1)
  have hR := (two_new (w.alloc (.cells #[Value.slice ca t.cols.length cc, Value.slice da t.data.length dc] 25)) 25 (Value.slice none 0 0) (Value.slice none 0 0))
  rw [show (w.alloc (.cells #[Value.slice ca t.cols.length cc, Value.slice da t.data.length dc] 25)).heap.size = w.heap.size + 1 by simp] at hR
  have hal := (below_then a0 a1)
  have hsz : ((w.alloc (.cells #[Value.slice ca t.cols.length cc, Value.slice da t.data.length dc] 25)).alloc (.cells #[Value.slice none 0 0, Value.slice none 0 0] 25)).heap.size = w.heap.size + 2 := by simp
  have HTT := Lib.hid (ht.next hal)
  have HT0 := Lib.hid ht
  have HPU := Lib.hid (hpu.next at5_firm hal)
  have HKO := Lib.hid (kinds_ok ht.gOk)
  have HM0 := Lib.hid (show t.cols.length ≤ maxLen from Nat.le_trans ht.ccap.1 ht.ccap.2.1)
  have HP := Lib.hid hP
  have HR := Lib.hid hR
  have HAL := Lib.hid hal
  have HSZ := Lib.hid hsz
  clear hal hsz hP hR a0 a1 ht hpu
  generalize hW : ((w.alloc (.cells #[Value.slice ca t.cols.length cc, Value.slice da t.data.length dc] 25)).alloc (.cells #[Value.slice none 0 0, Value.slice none 0 0] 25)) = W1 at *
  have HW := Lib.hid hW
  clear hW
  have HT := Lib.hid (fun W (hb : Below W1.heap.size W1 W) => rTable_any ca cc da dc t W (HTT.out.next hb))
  have HCA := Lib.hid (fun x W (hb : Below W1.heap.size W1 W) => rColAt_any x ca cc t.cols W HM0.out (HTT.out.next hb).gls)
  by_cases h0 : Tb.check t ≠ 0
  · rw [chg_bad h0]
    have g0 : ((Tb.check t : Int) == 0) = false := by rw [beq_eq_false_iff_ne]; omega
    have g1 : ((Tb.check t : Int) != 0) = true := by rw [bne_iff_ne]; omega
    have HC := Lib.hid (fun W (hb : Below W1.heap.size W1 W) => HCA.out o W hb)
    generalize Tb.idx t.cols o = ix at *
    generalize Tb.check t = er at *
    go_enter Try.func30, Try.ntmps30
    go_wp2_with fail
    rw [HW.out]
    have b_w := Below.refl W1.heap.size W1
    have cP0 := (HP.out.next b_w).c0
    have cP1 := (HP.out.next b_w).c1
    go_wp2_with fail
    refine (HT.out _ b_w).mono ?_
    rintro e w1 ⟨rfl, hbn⟩
    have b_w := below_then b_w hbn
    clear hbn
    clear cP0 cP1
    have cP0 := (HP.out.next b_w).c0
    have cP1 := (HP.out.next b_w).c1
    go_wp2_with fail
    refine (HC.out _ b_w).mono ?_
    rintro e w2 ⟨rfl, hbn⟩
    have b_w := below_then b_w hbn
    clear hbn
    clear cP0 cP1
    have q0 := HR.out.next b_w
    have q1 := q0.s0 (.slice none 0 0)
    have q2 := q1.s1 (.slice none 0 0)
    have b0 := q0.c0
    have f0 := q0.free 0
    have b1 := q1.c1
    have f1 := q1.free 1
    have y0 := q2.c0
    have y1 := q2.c1
    have hrb : w.heap.size ≤ w.heap.size + 1 := by omega
    have HB3 := Lib.hid (((below_then HAL.out b_w).setCell (p := ⟨w.heap.size + 1, 0, none⟩) hrb (.slice none 0 0)).setCell (p := ⟨w.heap.size + 1, 1, none⟩) hrb (.slice none 0 0))
    clear q0 q1 q2
    go_wp2_with fail
    refine bodyPost_ret (v := .tuple #[tag none 0 0 none 0 0, .int .i64 (er : Int)]) (by simp [results, Try.results30, go_sem, y0, y1]) rfl ?_
    exact ⟨_, _, _, _, rfl, Tbl.null _ _, HB3.out⟩
  have h0 : Tb.check t = 0 := Classical.not_not.1 h0
  have hok := Tb.check_ok h0
  have HT := Lib.hid (fun W (hb : Below W1.heap.size W1 W) => show Calls Try.prog 15 #[tag ca t.cols.length cc da t.data.length dc] W (CErrPost 0 W) by have := HT.out W hb; rwa [h0] at this)
  have h6 := hok.six
  have HLEN := Lib.hid hok.len
  have hrl128 := hok.rows_le
  have hdl6 : t.data.length ≤ 6 := by rw [hok.len]; exact h6
  have HRO := Lib.hid (fun i (hi : i < t.data.length) => hok.rows i (by rw [← hok.len]; exact hi))
  have HROWS := Lib.hid (fun W (hb : Below W1.heap.size W1 W) => rowsOf_any ca cc da dc t W (HTT.out.next hb))
  by_cases ho : ¬ Tb.has t.cols o
  · have e5 : Tb.redE t o p = 5 := by unfold Tb.redE; rw [if_pos ho]
    rw [chg_err h0 (by rw [e5]; simp), e5]
    have HC := Lib.hid (fun W (hb : Below W1.heap.size W1 W) => show Calls Try.prog 35 #[.slice ca t.cols.length cc, .string (str o)] W (IntPost (-1) W) by have := HCA.out o W hb; rwa [idx_neg ho] at this)
    go_enter Try.func30, Try.ntmps30
    go_wp2_with fail
    rw [HW.out]
    have b_w := Below.refl W1.heap.size W1
    have cP0 := (HP.out.next b_w).c0
    have cP1 := (HP.out.next b_w).c1
    go_wp2_with fail
    refine (HT.out _ b_w).mono ?_
    rintro e w1 ⟨rfl, hbn⟩
    have b_w := below_then b_w hbn
    clear hbn
    clear cP0 cP1
    have cP0 := (HP.out.next b_w).c0
    have cP1 := (HP.out.next b_w).c1
    go_wp2_with fail
    refine (HC.out _ b_w).mono ?_
    rintro e w2 ⟨rfl, hbn⟩
    have b_w := below_then b_w hbn
    clear hbn
    clear cP0 cP1
    have q0 := HR.out.next b_w
    have q1 := q0.s0 (.slice none 0 0)
    have q2 := q1.s1 (.slice none 0 0)
    have b0 := q0.c0
    have f0 := q0.free 0
    have b1 := q1.c1
    have f1 := q1.free 1
    have y0 := q2.c0
    have y1 := q2.c1
    have hrb : w.heap.size ≤ w.heap.size + 1 := by omega
    have HB3 := Lib.hid (((below_then HAL.out b_w).setCell (p := ⟨w.heap.size + 1, 0, none⟩) hrb (.slice none 0 0)).setCell (p := ⟨w.heap.size + 1, 1, none⟩) hrb (.slice none 0 0))
    clear q0 q1 q2
    go_wp2_with fail
    refine bodyPost_ret (v := .tuple #[tag none 0 0 none 0 0, .int .i64 5]) (by simp [results, Try.results30, go_sem, y0, y1]) rfl ?_
    exact ⟨_, _, _, _, rfl, Tbl.null _ _, HB3.out⟩
  have ho : Tb.has t.cols o := Classical.not_not.1 ho
  have HC := Lib.hid (fun W (hb : Below W1.heap.size W1 W) => show Calls Try.prog 35 #[.slice ca t.cols.length cc, .string (str o)] W (IntPost (Tb.pos t.cols o : Int) W) by have := HCA.out o W hb; rwa [idx_pos ho] at this)
  have g5 : decide ((Tb.pos t.cols o : Int) < 0) = false := decide_eq_false (by omega)
  have hqc : Tb.pos t.cols o < t.cols.length := ho
  have HKI := Lib.hid (fun W (hb : Below W1.heap.size W1 W) => rKinds_any ca cc t.cols W (by omega) (HTT.out.next hb).gls)
  have hk2 : t.cols.map Tb.Col.kind = Tb.kinds t := rfl
  rw [hk2] at HKI
  have hkl := Tb.kinds_len' t
  have HCK := Lib.hid (fun W a c (hb : Below W1.heap.size W1 W) (hu : Ints W W.heap.size a (Tb.kinds t)) => show Calls Try.prog 72 #[.slice ap p.length cp, .slice a t.cols.length c] W (CErrPost (O.check p (Tb.kinds t)) W) by
    have := ccheck_any ap cp p a c (Tb.kinds t) W hpm hpx (HPU.out.next at5_firm hb) HKO.out (by rw [hkl]; unfold maxLen; omega) hu
    rwa [hkl] at this)
  have HKL := Lib.hid hkl
  have hE : Tb.redE t o p = O.check p (Tb.kinds t) := by unfold Tb.redE; rw [if_neg (by simp [ho])]
  by_cases h1 : O.check p (Tb.kinds t) ≠ 0
  · rw [chg_err h0 (by rw [hE]; exact h1), hE]
    have g1 : ((O.check p (Tb.kinds t) : Int) != 0) = true := by rw [bne_iff_ne]; omega
    generalize O.check p (Tb.kinds t) = er at *
    clear hkl
    generalize Tb.pos t.cols o = q at *
    go_enter Try.func30, Try.ntmps30
    go_wp2_with fail
    rw [HW.out]
    have b_w := Below.refl W1.heap.size W1
    have cP0 := (HP.out.next b_w).c0
    have cP1 := (HP.out.next b_w).c1
    go_wp2_with fail
    refine (HT.out _ b_w).mono ?_
    rintro e w1 ⟨rfl, hbn⟩
    have b_w := below_then b_w hbn
    clear hbn
    clear cP0 cP1
    have cP0 := (HP.out.next b_w).c0
    have cP1 := (HP.out.next b_w).c1
    go_wp2_with fail
    refine (HC.out _ b_w).mono ?_
    rintro e w2 ⟨rfl, hbn⟩
    have b_w := below_then b_w hbn
    clear hbn
    clear cP0 cP1
    have cP0 := (HP.out.next b_w).c0
    have cP1 := (HP.out.next b_w).c1
    go_wp2_with fail
    refine (HKI.out _ b_w).mono ?_
    rintro e w3 ⟨vk, rfl, hrk, hbn⟩
    have b_w := below_then b_w hbn
    clear hbn
    clear cP0 cP1
    obtain ⟨ka, kc, rfl, hku⟩ := krow_ints hrk
    rw [HKL.out]
    clear hrk
    go_wp2_with fail
    refine (HCK.out _ _ _ b_w hku).mono ?_
    rintro e w4 ⟨rfl, hbn⟩
    have b_w := below_then b_w hbn
    clear hbn
    have q0 := HR.out.next b_w
    have q1 := q0.s0 (.slice none 0 0)
    have q2 := q1.s1 (.slice none 0 0)
    have b0 := q0.c0
    have f0 := q0.free 0
    have b1 := q1.c1
    have f1 := q1.free 1
    have y0 := q2.c0
    have y1 := q2.c1
    have hrb : w.heap.size ≤ w.heap.size + 1 := by omega
    have HB3 := Lib.hid (((below_then HAL.out b_w).setCell (p := ⟨w.heap.size + 1, 0, none⟩) hrb (.slice none 0 0)).setCell (p := ⟨w.heap.size + 1, 1, none⟩) hrb (.slice none 0 0))
    clear q0 q1 q2
    go_wp2_with fail
    refine bodyPost_ret (v := .tuple #[tag none 0 0 none 0 0, .int .i64 (er : Int)]) (by simp [results, Try.results30, go_sem, y0, y1]) rfl ?_
    exact ⟨_, _, _, _, rfl, Tbl.null _ _, HB3.out⟩
  have h1 : O.check p (Tb.kinds t) = 0 := Classical.not_not.1 h1
  rw [Tb.chg_ok h0 (hE.trans h1)]
  rw [h1] at HCK
  have HOKX := Lib.hid (row_ok hok (fun i hi => data_ok HT0.out.dat i hi))
  have HCO := Lib.hid (fun i (hi : i < Tb.rows t) W a c (hb : Below W1.heap.size W1 W) (hu : Cls W W.heap.size a (Tb.rowAt t i)) => show Calls Try.prog 73 #[.slice ap p.length cp, .slice a t.data.length c] W (CErrPost (O.askR p (Tb.kinds t) (Tb.rowAt t i)).1 W) from rCond_row hok h1 hi hpx ap cp hcp W (HPU.out.next at5_firm hb) a c (HOKX.out i hi) hu)
  have HRAT := Lib.hid (fun i (hi : i < Tb.rows t) W (hb : Below W1.heap.size W1 W) => rRowAt_any ca cc da dc t i W (HTT.out.next hb) (by omega) (fun x hx => by rw [HRO.out x hx]; exact hi))
  have HRL := Lib.hid (fun i => show (Tb.rowAt t i).length = t.data.length by simp [Tb.rowAt])
  have HTRU := Lib.hid (fun i => @tru_of t p i)
  have hqd : Tb.pos t.cols o < t.data.length := by rw [hok.len]; exact hqc
  have hcr : (t.data.getD (Tb.pos t.cols o) []).length = Tb.rows t := hok.rows _ hqc
  have HRES := Lib.hid (show (⟨t.cols, t.data.set (Tb.pos t.cols o) (redF (Tb.tru t p) (t.data.getD (Tb.pos t.cols o) []) (Tb.rows t))⟩ : Tb.T) = Tb.red t o p by
    unfold Tb.red Tb.marks
    rw [← hcr, redF_nulled])
  have HDOK := Lib.hid (data_ok HT0.out.dat _ hqd)
  obtain ⟨vs, hrd, hvs⟩ := dat_vals HT0.out.dat
  have HRD := Lib.hid hrd
  have HVL := Lib.hid hrd.1
  have HVS := Lib.hid hvs
  have HCOL := Lib.hid (hvs _ hqd)
  generalize Tb.red t o p = RR at *
  generalize Tb.pos t.cols o = q at *
  generalize t.data.getD q [] = col at *
  have HCR := Lib.hid hcr
  clear hkl hE h0 hok h1 hrd hvs ho hcr
  go_enter Try.func30, Try.ntmps30
  go_wp2_with fail
  rw [HW.out]
  have b_w := Below.refl W1.heap.size W1
  have cP0 := (HP.out.next b_w).c0
  have cP1 := (HP.out.next b_w).c1
  go_wp2_with fail
  refine (HT.out _ b_w).mono ?_
  rintro e w1 ⟨rfl, hbn⟩
  have b_w := below_then b_w hbn
  clear hbn
  clear cP0 cP1
  have cP0 := (HP.out.next b_w).c0
  have cP1 := (HP.out.next b_w).c1
  go_wp2_with fail
  refine (HC.out _ b_w).mono ?_
  rintro e w2 ⟨rfl, hbn⟩
  have b_w := below_then b_w hbn
  clear hbn
  clear cP0 cP1
  have cP0 := (HP.out.next b_w).c0
  have cP1 := (HP.out.next b_w).c1
  go_wp2_with fail
  refine (HKI.out _ b_w).mono ?_
  rintro e w3 ⟨vk, rfl, hrk, hbn⟩
  have b_w := below_then b_w hbn
  clear hbn
  clear cP0 cP1
  obtain ⟨ka, kc, rfl, hku⟩ := krow_ints hrk
  rw [HKL.out]
  clear hrk
  go_wp2_with fail
  refine (HCK.out _ _ _ b_w hku).mono ?_
  rintro e w4 ⟨rfl, hbn⟩
  have b_w := below_then b_w hbn
  clear hbn
  go_wp2_with fail
  have b_w0 := b_w
  go_loopw [10, 11] (fun v i wr => ∃ j : Nat, j ≤ Tb.rows t ∧ i = .int .i64 j ∧ Hid (CRow W1.heap.size (redF (Tb.tru t p) col j) v wr) ∧ Below W1.heap.size W1 wr) (fun _ i _ => Tb.rows t - (intOf i).toNat)
  case atStart => exact ⟨0, by omega, rfl, Lib.hid (cnilRow _ _), b_w0⟩
  clear b_w0
  case round =>
    obtain ⟨j, hj, rfl, HK, hbw⟩ := hrel
    have b_w := hbw
    have b_r := Below.refl wr.heap.size wr
    clear hbw
    have cP0 := (HP.out.next b_w).c0
    have cP1 := (HP.out.next b_w).c1
    go_wp2_with fail
    refine (HROWS.out _ b_w).mono ?_
    rintro e wa ⟨rfl, hbn⟩
    have b_w := below_then b_w hbn
    have b_r := below_then b_r hbn
    clear hbn
    clear cP0 cP1
    by_cases hlt : j < Tb.rows t
    · have hjI : (j : Int) < (Tb.rows t : Int) := by omega
      have cP0 := (HP.out.next b_w).c0
      have cP1 := (HP.out.next b_w).c1
      go_wp2_with fail
      refine (HRAT.out j hlt _ b_w).mono ?_
      rintro e wb ⟨vr, rfl, hrow, hbn⟩
      have b_w := below_then b_w hbn
      have b_r := below_then b_r hbn
      clear hbn
      clear cP0 cP1
      obtain ⟨ra, rc, rfl, hcu, -⟩ := cRow_cls hrow
      rw [HRL.out]
      clear hrow
      go_wp2_with fail
      refine (HCO.out j hlt _ _ _ b_w hcu).mono ?_
      rintro e wc ⟨rfl, hbn⟩
      have b_w := below_then b_w hbn
      have b_r := below_then b_r hbn
      clear hbn
      clear hcu
      have htq := HTRU.out j
      generalize (O.askR p (Tb.kinds t) (Tb.rowAt t j)).1 = x at *
      have HK := Lib.hid (HK.out.below b_r)
      have hst := redF_step (Tb.tru t p) col j
      have hll := redF_len (Tb.tru t p) col j
      by_cases hx2 : x = 2
      · have g8 : ((x : Int) == 2) = true := by rw [beq_iff_eq]; omega
        rw [htq, decide_eq_true hx2, if_pos rfl] at hst
        have HST := Lib.hid hst
        have hlb : ((redF (Tb.tru t p) col j).length + 1) * 32 ≤ 140737488355328 := by rw [hll]; omega
        have hb5 : W1.heap.size ≤ (wc.alloc (.cells #[.int .i64 0, .int .u64 0, .string ⟨#[]⟩] 30)).heap.size := by have := b_w.size; simp; omega
        have HBW := Lib.hid b_w
        clear hst hll htq hx2
        go_wp2_with (at_builtin; refine wpList_append_onec rfl (.tmp 48) (.tmp 50) rfl W1.heap.size _ (redF (Tb.tru t p) col j) rfl (HK.out.alloc_ _) wc.heap.size C.null rfl (World.cell?_alloc_new _ _ _ _) (World.cell?_alloc_new _ _ _ _) (by exact World.cell?_alloc_new _ _ _ _) hlb hb5 ?_)
        intro v' w5 hown5 hb5w hg5
        have hbw5 : Below W1.heap.size W1 w5 := (HBW.out.alloc HBW.out.size _).trans hb5w
        clear hb5w hg5
        go_wp2_with fail
        exact ⟨⟨j + 1, by omega, by go_num, Lib.hid (by rw [HST.out]; exact hown5), hbw5⟩, by simp [intOf]; omega⟩
      · have g8 : ((x : Int) == 2) = false := by rw [beq_eq_false_iff_ne]; omega
        rw [htq, decide_eq_false hx2, if_neg (by simp)] at hst
        obtain ⟨db, doff, rfl, hdb, ua, uc, -, hv1, hri⟩ := HCOL.out
        have kv := ((below_then HAL.out b_w).cell (p := ⟨db, doff + q, none⟩) hdb).trans hv1
        have hjc : j < col.length := by rw [HCR.out]; exact hlt
        obtain ⟨ub, uoff, rfl, hub, hucc⟩ := hri.cls (fun e => by rw [e] at hjc; simp at hjc)
        obtain ⟨k0, k1, k2⟩ := hucc j hjc
        have e0 := ((below_then HAL.out b_w).cell (p := ⟨ub, uoff + j * 3, none⟩) hub).trans k0
        have e1 := ((below_then HAL.out b_w).cell (p := ⟨ub, uoff + j * 3 + 1, none⟩) hub).trans k1
        have e2 := ((below_then HAL.out b_w).cell (p := ⟨ub, uoff + j * 3 + 2, none⟩) hub).trans k2
        have cP1 := (HP.out.next b_w).c1
        have hqI : (q : Int) < (t.data.length : Int) := by omega
        have hjX : (j : Int) < (col.length : Int) := by omega
        generalize col.getD j C.null = cl at *
        obtain ⟨z, n, s⟩ := cl
        simp only at e0 e1 e2
        generalize hX : str s = X at *
        clear k0 k1 k2 hucc hri hv1
        have HST := Lib.hid hst
        have hlb : ((redF (Tb.tru t p) col j).length + 1) * 32 ≤ 140737488355328 := by rw [hll]; omega
        have hb5 : W1.heap.size ≤ (wc.alloc (.cells #[.int .i64 z, .int .u64 (n : Int), .string X] 30)).heap.size := by have := b_w.size; simp; omega
        have HBW := Lib.hid b_w
        clear hst hll htq hx2
        go_wp2_with (at_builtin; refine wpList_append_onec rfl (.tmp 52) (.tmp 61) rfl W1.heap.size _ (redF (Tb.tru t p) col j) rfl (HK.out.alloc_ _) wc.heap.size ⟨z, n, s⟩ rfl (World.cell?_alloc_new _ _ _ _) (World.cell?_alloc_new _ _ _ _) (by rw [hX]; exact World.cell?_alloc_new _ _ _ _) hlb hb5 ?_)
        intro v' w5 hown5 hb5w hg5
        have hbw5 : Below W1.heap.size W1 w5 := (HBW.out.alloc HBW.out.size _).trans hb5w
        clear hb5w hg5
        go_wp2_with fail
        exact ⟨⟨j + 1, by omega, by go_num, Lib.hid (by rw [HST.out]; exact hown5), hbw5⟩, by simp [intOf]; omega⟩
    · have hjr : j = Tb.rows t := by omega
      subst hjr
      have hjI : ¬ (Tb.rows t : Int) < (Tb.rows t : Int) := by omega
      have HK := Lib.hid (HK.out.below b_r)
      obtain ⟨la, lc, hlf, -, -⟩ := cRow_cls HK.out
      rw [redF_len] at hlf
      subst hlf
      obtain ⟨db, doff, rfl, hdb, ua, uc, hq0, -, -⟩ := HCOL.out
      have hPlt := (HP.out.next b_w).lt
      have CP0 := (HP.out.next b_w).c0
      have CP1 := (HP.out.next b_w).c1
      have HBW := Lib.hid b_w
      have hdbW : db < wa.heap.size := Nat.lt_of_lt_of_le hdb (Nat.le_trans HAL.out.size b_w.size)
      have HDC := Lib.hid (fun i (hi : i < vs.length) => show wa.cell? ⟨db, doff + i, none⟩ = vs[i]? by
        obtain ⟨b2, o2, e2, hb2, x1, x2, x3, x4, -⟩ := HVS.out i (by rw [← HVL.out]; exact hi)
        have e3 := Option.some.inj e2
        injection e3 with e4 e5 _
        subst e4 e5
        rw [x3, (below_then HAL.out b_w).cell (p := ⟨db, doff + i, none⟩) hb2, x4])
      have hvl6 : t.data.length ≤ 6 := hdl6
      have hwB : W1.heap.size ≤ wa.heap.size := b_w.size
      have HONE := Lib.hid (one_of_reads HRD.out)
      clear b_r hlt
      go_wp2_with fail
      refine wp_letter (fun a0 ha0 => ?_)
      have A3 : a0.eval (.tmp 3) = .pointer (some ⟨w.heap.size, 0, none⟩) := by rw [ha0]; rfl
      have hAS : a0.tmps.size = 76 := by rw [ha0]; rfl
      have HA0 := Lib.hid ha0
      clear ha0
      refine wp_region_inv (by kernel_rfl) (by kernel_rfl) (StJ (redTb W1.heap.size (.pointer (some ⟨w.heap.size, 0, none⟩)) (.slice ca t.cols.length cc) (.slice (some ⟨db, doff, none⟩) t.data.length dc) (.pointer (some ⟨w.heap.size, 1, none⟩)) t.data.length vs) (fun _ => False) wa [63, 64, 65, 66, 67, 68, 69, 12]) (fun L hL0 hL1 => ⟨_, _, _, (upd_none a0).symm, St.start (by kernel_rfl) (Nat.le_refl _) (Kept.drew_ _) (fun i hi => hL0 i hi)⟩) ?hs ?hend
      case hs =>
        refine steps_cons (fun L a wx hJ hL haft K hK => ?_) ?_
        · obtain ⟨f, own, val, rfl, H⟩ := hJ
          refine wanted_step rfl ?_
          have e3 := ((H.ev0 3 (by decide)).trans A3)
          refine wp_of_run (w' := wx) (v := .pointer (some ⟨w.heap.size, 0, none⟩)) ?_ (hK _ _ (H.quiet (i := 0) (show 0 < 9 by decide) hL (fun d h => by cases h; decide) (by kernel_rfl) (fun j hj => absurd hj List.not_mem_nil) _ (fun s h => Or.inl (by cases h; rfl)) rfl (fun _ _ => trivial) (Or.inr rfl)))
          have qf : ∀ n, (upd a0 f).eval (.func n) = .func (.func n) #[] #[] := fun _ => rfl
          have qc : ∀ v, (upd a0 f).eval (.const v) = v := fun _ => rfl
          generalize (upd a0 f).eval = ev at *
          go_simp
        refine steps_cons (fun L a wx hJ hL haft K hK => ?_) ?_
        · obtain ⟨f, own, val, rfl, H⟩ := hJ
          refine wanted_step rfl ?_
          have ex := (H.ev 0 63 (show 0 < 9 by decide) (haft ⟨0, .data⟩ (by simp) rfl) rfl (by rw [hAS]; decide)).trans (H.pur 0 (show 0 < 9 by decide) (haft ⟨0, .data⟩ (by simp) rfl))
          have c0 := (H.kept.cell (o := 0) hPlt (fun h => h)).trans CP0
          refine wp_of_run (w' := wx) (v := .slice ca t.cols.length cc) ?_ (hK _ _ (H.quiet (i := 1) (show 1 < 9 by decide) hL (fun d h => by cases h; decide) (by kernel_rfl) (fun j hj => absurd hj List.not_mem_nil) _ (fun s h => Or.inl (by cases h; rfl)) rfl (fun _ _ => trivial) (Or.inr rfl)))
          have qf : ∀ n, (upd a0 f).eval (.func n) = .func (.func n) #[] #[] := fun _ => rfl
          have qc : ∀ v, (upd a0 f).eval (.const v) = v := fun _ => rfl
          generalize (upd a0 f).eval = ev at *
          go_simp
        refine steps_cons (fun L a wx hJ hL haft K hK => ?_) ?_
        · obtain ⟨f, own, val, rfl, H⟩ := hJ
          refine wanted_step rfl ?_
          refine wp_of_run (w' := wx.alloc (.cells #[] 34)) (v := .slice (some ⟨wx.heap.size, 0, none⟩) 0 0) ?_ (hK _ _ (H.make (i := 2) (show 2 < 9 by decide) hL (fun d h => by cases h; decide) (by kernel_rfl) (fun j hj => absurd hj List.not_mem_nil) _ (fun s h => Or.inl (by cases h; rfl)) _ ((Below.refl _ _).alloc (Nat.le_refl _) _) trivial (RowIt.obj (row_empty _ _ _ _ (Nat.le_trans hwB H.kept.size)) ⟨Nat.le_refl _, by simp⟩) (Or.inr rfl)))
          have qf : ∀ n, (upd a0 f).eval (.func n) = .func (.func n) #[] #[] := fun _ => rfl
          have qc : ∀ v, (upd a0 f).eval (.const v) = v := fun _ => rfl
          generalize (upd a0 f).eval = ev at *
          go_simp
        refine steps_cons (fun L a wx hJ hL haft K hK => ?_) ?_
        · obtain ⟨f, own, val, rfl, H⟩ := hJ
          refine wanted_step rfl ?_
          have e3 := ((H.ev0 3 (by decide)).trans A3)
          refine wp_of_run (w' := wx) (v := .pointer (some ⟨w.heap.size, 1, none⟩)) ?_ (hK _ _ (H.quiet (i := 3) (show 3 < 9 by decide) hL (fun d h => by cases h; decide) (by kernel_rfl) (fun j hj => absurd hj List.not_mem_nil) _ (fun s h => Or.inl (by cases h; rfl)) rfl (fun _ _ => trivial) (Or.inr rfl)))
          have qf : ∀ n, (upd a0 f).eval (.func n) = .func (.func n) #[] #[] := fun _ => rfl
          have qc : ∀ v, (upd a0 f).eval (.const v) = v := fun _ => rfl
          generalize (upd a0 f).eval = ev at *
          go_simp
        refine steps_cons (fun L a wx hJ hL haft K hK => ?_) ?_
        · obtain ⟨f, own, val, rfl, H⟩ := hJ
          refine wanted_step rfl ?_
          have ex := (H.ev 3 66 (show 3 < 9 by decide) (haft ⟨3, .data⟩ (by simp) rfl) rfl (by rw [hAS]; decide)).trans (H.pur 3 (show 3 < 9 by decide) (haft ⟨3, .data⟩ (by simp) rfl))
          have c1 := (H.kept.cell (o := 1) hPlt (fun h => h)).trans CP1
          refine wp_of_run (w' := wx) (v := .slice (some ⟨db, doff, none⟩) t.data.length dc) ?_ (hK _ _ (H.quiet (i := 4) (show 4 < 9 by decide) hL (fun d h => by cases h; decide) (by kernel_rfl) (fun j hj => absurd hj List.not_mem_nil) _ (fun s h => Or.inl (by cases h; rfl)) rfl (fun _ _ => trivial) (Or.inr rfl)))
          have qf : ∀ n, (upd a0 f).eval (.func n) = .func (.func n) #[] #[] := fun _ => rfl
          have qc : ∀ v, (upd a0 f).eval (.const v) = v := fun _ => rfl
          generalize (upd a0 f).eval = ev at *
          go_simp
        refine steps_cons (fun L a wx hJ hL haft K hK => ?_) ?_
        · obtain ⟨f, own, val, rfl, H⟩ := hJ
          refine wanted_step rfl ?_
          have ex := (H.ev 4 67 (show 4 < 9 by decide) (haft ⟨4, .data⟩ (by simp) rfl) rfl (by rw [hAS]; decide)).trans (H.pur 4 (show 4 < 9 by decide) (haft ⟨4, .data⟩ (by simp) rfl))
          refine H.app (i := 5) 2 65 (show 2 < 9 by decide) (haft ⟨2, .data⟩ (by simp) rfl) rfl rfl (by rw [hAS]; decide) rfl (show 5 < 9 by decide) hL (fun d h => by cases h; decide) (by kernel_rfl) (fun j hj => absurd hj List.not_mem_nil) (fun s h => by cases h; rfl) _ 23 rfl (.slice none 0 0) 24 Try.underlying23 info_row rfl (by decide) (some ⟨db, doff, none⟩) t.data.length dc vs (by rw [HVL.out]; simp) ex (fun e => by cases e) (fun ad e j u hj => ?_) HONE.out (by unfold maxLen; omega) (by omega) (Nat.le_trans hwB H.kept.size) rfl (fun _ => trivial) hK
          have e' := Option.some.inj e
          subst e'
          have hjv : j < vs.length := (List.getElem?_eq_some_iff.1 hj).1
          rw [show (⟨db, doff, none⟩ : Addr).add j = ⟨db, doff + j, none⟩ by unfold Addr.add; split <;> simp_all, H.kept.cell (o := doff + j) hdbW (fun h => h), HDC.out j hjv, hj]
        refine steps_cons (fun L a wx hJ hL haft K hK => ?_) ?_
        · obtain ⟨f, own, val, rfl, H⟩ := hJ
          refine wanted_step rfl ?_
          have e64 := (H.ev 1 64 (show 1 < 9 by decide) (haft ⟨1, .data⟩ (by simp) rfl) rfl (by rw [hAS]; decide)).trans (H.pur 1 (show 1 < 9 by decide) (haft ⟨1, .data⟩ (by simp) rfl))
          obtain ⟨g, c, hv5, _, _⟩ := (H.mine 5 6 (show 5 < 9 by decide) (haft ⟨5, .data⟩ (by simp) rfl) rfl hL).now
          have e68 := (H.ev 5 68 (show 5 < 9 by decide) (haft ⟨5, .data⟩ (by simp) rfl) rfl (by rw [hAS]; decide)).trans hv5
          refine wp_of_run (w' := wx) (v := .agg #[.slice ca t.cols.length cc, .slice (some ⟨g, 0, none⟩) (0 + t.data.length) c]) ?_ (hK _ _ (H.pass 5 (show 5 < 9 by decide) (haft ⟨5, .data⟩ (by simp) rfl) rfl (i := 6) (show 6 < 9 by decide) hL (fun d h => by cases h; decide) (by kernel_rfl) (fun j hj => absurd hj List.not_mem_nil) _ (fun s h => Or.inl (by cases h; rfl)) trivial (fun S w' h => ?_) (Or.inr rfl)))
          · have qf : ∀ n, (upd a0 f).eval (.func n) = .func (.func n) #[] #[] := fun _ => rfl; have qc : ∀ v, (upd a0 f).eval (.const v) = v := fun _ => rfl; generalize (upd a0 f).eval = ev at *; go_simp
          · obtain ⟨g', c', h1, h2, h3⟩ := h
            rw [hv5] at h1
            injection h1 with h4 _ h5
            have h6 := Option.some.inj h4
            injection h6 with h7
            subst h7 h5
            exact ⟨g, c, rfl, h2, h3⟩
        refine steps_cons (fun L a wx hJ hL haft K hK => ?_) ?_
        · obtain ⟨f, own, val, rfl, H⟩ := hJ
          refine wanted_step rfl ?_
          have hn := heap_alloc_new wx (.cells #[.slice none 0 0, .slice none 0 0] 25)
          refine wp_of_run (w' := wx.alloc (.cells #[.slice none 0 0, .slice none 0 0] 25)) (v := .pointer (some ⟨wx.heap.size, 0, none⟩)) ?_ (hK _ _ (H.make (i := 7) (show 7 < 9 by decide) hL (fun d h => by cases h; decide) (by kernel_rfl) (fun j hj => absurd hj List.not_mem_nil) _ (fun s h => Or.inl (by cases h; rfl)) _ ((Below.refl _ _).alloc (Nat.le_refl _) _) trivial (fun W' h1 _ => ⟨_, rfl, ⟨Nat.le_refl _, by simp⟩, (h1 _ ⟨Nat.le_refl _, by simp⟩).trans hn⟩) (Or.inr rfl)))
          clear hn 
          have qf : ∀ n, (upd a0 f).eval (.func n) = .func (.func n) #[] #[] := fun _ => rfl
          have qc : ∀ v, (upd a0 f).eval (.const v) = v := fun _ => rfl
          generalize (upd a0 f).eval = ev at *
          go_simp
        refine steps_cons (fun L a wx hJ hL haft K hK => ?_) ?_
        · obtain ⟨f, own, val, rfl, H⟩ := hJ
          refine wanted_step rfl ?_
          obtain ⟨g, hv7, hs7, h2⟩ := (H.mine 7 8 (show 7 < 9 by decide) (haft ⟨7, .data⟩ (by simp) rfl) rfl hL).now
          have ho6 := (H.mine 6 8 (show 6 < 9 by decide) (haft ⟨6, .data⟩ (by simp) rfl) rfl hL)
          obtain ⟨gr, cr, hv6, hs6, _⟩ := ho6.now
          have e15 := (H.ev 7 12 (show 7 < 9 by decide) (haft ⟨7, .data⟩ (by simp) rfl) rfl (by rw [hAS]; decide)).trans hv7
          have e83 := (H.ev 6 69 (show 6 < 9 by decide) (haft ⟨6, .data⟩ (by simp) rfl) rfl (by rw [hAS]; decide)).trans hv6
          have hg7 := h2.lt
          have c0 := h2.c0
          have f0 := h2.free 0
          have k1 := h2.s0 (.slice ca t.cols.length cc)
          have c1 := k1.c1
          have f1 := k1.free 1
          have k2 := k1.s1 (.slice (some ⟨gr, 0, none⟩) (0 + t.data.length) cr)
          have al : ∀ e, (tab (redTb W1.heap.size (.pointer (some ⟨w.heap.size, 0, none⟩)) (.slice ca t.cols.length cc) (.slice (some ⟨db, doff, none⟩) t.data.length dc) (.pointer (some ⟨w.heap.size, 1, none⟩)) t.data.length vs) 7).cons = some e → L e = false := fun e h => by cases h; exact hL
          have al2 : ∀ e, (tab (redTb W1.heap.size (.pointer (some ⟨w.heap.size, 0, none⟩)) (.slice ca t.cols.length cc) (.slice (some ⟨db, doff, none⟩) t.data.length dc) (.pointer (some ⟨w.heap.size, 1, none⟩)) t.data.length vs) 6).cons = some e → L e = false := fun e h => by cases h; exact hL
          have hne : ∀ z, own 6 z → z ≠ g := fun z hz e => by
            have := H.dis 6 7 z (show 6 < 9 by decide) (show 7 < 9 by decide) (haft ⟨6, .data⟩ (by simp) rfl) (haft ⟨7, .data⟩ (by simp) rfl) al2 al hz (by rw [e]; exact hs7)
            cases this
          have hbl : ∀ z, z ≠ g → ((wx.setCell ⟨g, 0, none⟩ (.slice ca t.cols.length cc)).setCell ⟨g, 1, none⟩ (.slice (some ⟨gr, 0, none⟩) (0 + t.data.length) cr)).heap[z]? = wx.heap[z]? := fun z hz => by
            rw [heap_set _ _ _ _ hz, heap_set _ _ _ _ hz]
          have hgB : W1.heap.size ≤ g := Nat.le_trans hwB ((H.rng 7 g (show 7 < 9 by decide) (haft ⟨7, .data⟩ (by simp) rfl) al hs7).2.elim id (fun h => h.elim))
          refine wp_of_skip (w' := (wx.setCell ⟨g, 0, none⟩ (.slice ca t.cols.length cc)).setCell ⟨g, 1, none⟩ (.slice (some ⟨gr, 0, none⟩) (0 + t.data.length) cr)) ?_ (hK _ _ (H.turn 7 (show 7 < 9 by decide) (haft ⟨7, .data⟩ (by simp) rfl) rfl (i := 8) (show 8 < 9 by decide) hL (fun d h => by cases h) (by kernel_rfl) (fun j hj => by rw [List.mem_singleton.1 hj]; exact (haft ⟨7, .data⟩ (by simp) rfl)) (val 7) (fun s h => Or.inr (by cases h; exact H.slot 7 12 (show 7 < 9 by decide) (haft ⟨7, .data⟩ (by simp) rfl) rfl)) g hs7 _ (((Below.refl _ _).setCell (p := ⟨g, 0, none⟩) (Nat.zero_le _) _).setCell (p := ⟨g, 1, none⟩) (Nat.zero_le _) _) (fun z _ hz => hbl z hz) trivial (fun z => own 7 z ∨ own 6 z) (fun z hz => ?_) (fun W' h1 h2 => ?_) (Or.inl rfl)))
          · clear k2 ho6 hbl hne al al2
            have qf : ∀ n, (upd a0 f).eval (.func n) = .func (.func n) #[] #[] := fun _ => rfl; have qc : ∀ v, (upd a0 f).eval (.const v) = v := fun _ => rfl; generalize (upd a0 f).eval = ev at *; go_simp
          · rcases hz with hz | hz
            · exact ⟨by simpa using (H.rng 7 z (show 7 < 9 by decide) (haft ⟨7, .data⟩ (by simp) rfl) al hz).1, Or.inr (Or.inl hz)⟩
            · exact ⟨by simpa using (H.rng 6 z (show 6 < 9 by decide) (haft ⟨6, .data⟩ (by simp) rfl) al2 hz).1, Or.inr (Or.inr ⟨6, (show 6 < 9 by decide), (haft ⟨6, .data⟩ (by simp) rfl), rfl, hz⟩)⟩
          · obtain ⟨g', c', hv', hs', hr'⟩ := ho6 W' (fun z hz => (h1 z (Or.inr hz)).trans (hbl z (hne z hz))) (by simpa using h2)
            have h3 := hv6.symm.trans hv'
            simp at h3
            obtain ⟨rfl, rfl⟩ := h3
            exact ⟨g, gr, cr, hv7, hgB, (h1 g (Or.inl hs7)).trans k2, hr'⟩
        exact steps_nil
      case hend =>
        intro L a wz hall hJ
        obtain ⟨f, own, val, rfl, H⟩ := hJ
        obtain ⟨H12, gr, cr, hv8, hH, htw, hrow⟩ := (H.free 8 (show 8 < 9 by decide) (hall _) rfl).now
        rw [Nat.zero_add, List.nil_append] at hrow
        rw [Nat.zero_add] at htw
        have s63 := H.slot 0 63 (show 0 < 9 by decide) (hall _) rfl
        have s64 := H.slot 1 64 (show 1 < 9 by decide) (hall _) rfl
        have s65 := H.slot 2 65 (show 2 < 9 by decide) (hall _) rfl
        have s66 := H.slot 3 66 (show 3 < 9 by decide) (hall _) rfl
        have s67 := H.slot 4 67 (show 4 < 9 by decide) (hall _) rfl
        have s68 := H.slot 5 68 (show 5 < 9 by decide) (hall _) rfl
        have s69 := H.slot 6 69 (show 6 < 9 by decide) (hall _) rfl
        have s12 := H.slot 8 12 (show 8 < 9 by decide) (hall _) rfl
        have hup := upd_puts a0 [63, 64, 65, 66, 67, 68, 69, 12] f (fun _ => none) (fun s hs => H.off s hs) (fun s hs => by simp only [List.mem_cons, List.not_mem_nil, or_false] at hs; rcases hs with rfl | rfl | rfl | rfl | rfl | rfl | rfl | rfl <;> exact ⟨_, by assumption⟩)
        rw [upd_none] at hup
        simp only [List.map_cons, List.map_nil, s63, s64, s65, s66, s67, s68, s69, s12, Option.getD_some, hv8] at hup
        rw [hup]
        have hbz := H.kept.below (B := wa.heap.size) (fun k h => h.elim) (Nat.le_refl _)
        clear H hup hall hAS hv8 s63 s64 s65 s66 s67 s68 s69 s12
        generalize val 0 = y0
        generalize val 1 = y1
        generalize val 2 = y2
        generalize val 3 = y3
        generalize val 4 = y4
        generalize val 5 = y5
        generalize val 6 = y6
        rw [HA0.out]
        clear HA0
        simp only [puts, Act.put]
        have hrow0 := hrow
        have hrow : VRow W1.heap.size vs (.slice (some ⟨gr, 0, none⟩) t.data.length cr) wz := by unfold VRow; rw [HVL.out]; exact hrow
        have b_w := below_then b_w hbz
        have HK := Lib.hid (HK.out.below hbz)
        clear hbz CP0 CP1 A3 HDC
        go_simp
        obtain ⟨kc, kf⟩ := vrow_at hrow q (by rw [HVL.out]; exact hqd)
        rw [hq0] at kc
        have d1 := htw.c1
        have hqI : (q : Int) < (t.data.length : Int) := by omega
        have hgr := (hrow.lt gr rfl).1
        have HV2 := Lib.hid (show VRow W1.heap.size (vs.set q (.slice la (Tb.rows t) lc)) (.slice (some ⟨gr, 0, none⟩) t.data.length cr) (wz.setCell ⟨gr, q, none⟩ (.slice la (Tb.rows t) lc)) by
          unfold VRow
          rw [List.length_set, HVL.out]
          have h9 := (World.ownsRow.stored hrow0 q (.slice la (Tb.rows t) lc)).1
          exact h9)
        clear hrow0
        have HT2 := Lib.hid (show Two (wz.setCell ⟨gr, q, none⟩ (.slice la (Tb.rows t) lc)) H12 25 (.slice ca t.cols.length cc) (.slice (some ⟨gr, 0, none⟩) t.data.length cr) from (heap_set _ _ _ _ (fun e => two_kind hrow htw (by decide) (by show some H12 = some gr; rw [e]))).trans htw)
        have HK2 := Lib.hid (show CRow W1.heap.size (redF (Tb.tru t p) col (Tb.rows t)) (.slice la (Tb.rows t) lc) (wz.setCell ⟨gr, q, none⟩ (.slice la (Tb.rows t) lc)) from row_move HK.out (fun g hg => heap_set _ _ _ _ (fun e => row_kinds HK.out hrow (by decide) hg (by show some g = some gr; rw [e]))))
        have hb_w := b_w.setCell (p := ⟨gr, q, none⟩) hgr (.slice la (Tb.rows t) lc)
        clear b_w
        have b_w := hb_w
        clear hb_w hrow htw hq0
        go_upto_region 18 with fail
        generalize wz.setCell ⟨gr, q, none⟩ (.slice la (Tb.rows t) lc) = V at *
        clear kc kf d1
        have z0 := HT2.out.c0
        have z1 := HT2.out.c1
        have q0 := HR.out.next b_w
        have q1 := q0.s0 (.slice ca t.cols.length cc)
        have q2 := q1.s1 (.slice (some ⟨gr, 0, none⟩) t.data.length cr)
        have b0 := q0.c0
        have f0 := q0.free 0
        have b1 := q1.c1
        have f1 := q1.free 1
        have y0 := q2.c0
        have y1 := q2.c1
        have hrb : w.heap.size ≤ w.heap.size + 1 := by omega
        have HB3 := Lib.hid (((below_then HAL.out b_w).setCell (p := ⟨w.heap.size + 1, 0, none⟩) hrb (.slice ca t.cols.length cc)).setCell (p := ⟨w.heap.size + 1, 1, none⟩) hrb (.slice (some ⟨gr, 0, none⟩) t.data.length cr))
        clear q0 q1 q2
        go_wp2_with fail
        refine bodyPost_ret (v := .tuple #[tag ca t.cols.length cc (some ⟨gr, 0, none⟩) t.data.length cr, .int .i64 0]) (by simp [results, Try.results30, go_sem, y0, y1]) rfl ?_
        have hag : ∀ z, W1.heap.size ≤ z → ((V.setCell ⟨w.heap.size + 1, 0, none⟩ (.slice ca t.cols.length cc)).setCell ⟨w.heap.size + 1, 1, none⟩ (.slice (some ⟨gr, 0, none⟩) t.data.length cr)).heap[z]? = V.heap[z]? := fun z hz => by
          have h2 := HSZ.out
          rw [heap_set _ _ _ _ (by simp; omega), heap_set _ _ _ _ (by simp; omega)]
        have hk3 := row_move HK2.out (w' := (V.setCell ⟨w.heap.size + 1, 0, none⟩ (.slice ca t.cols.length cc)).setCell ⟨w.heap.size + 1, 1, none⟩ (.slice (some ⟨gr, 0, none⟩) t.data.length cr)) (fun g hg => hag g (HK2.out.lt g hg).1)
        have hv3 := row_move HV2.out (w' := (V.setCell ⟨w.heap.size + 1, 0, none⟩ (.slice ca t.cols.length cc)).setCell ⟨w.heap.size + 1, 1, none⟩ (.slice (some ⟨gr, 0, none⟩) t.data.length cr)) (fun g hg => hag g (HV2.out.lt g hg).1)
        have hri := (CRow.rowIn hk3 (fun x hx => by
          obtain ⟨i, hi, rfl⟩ := List.mem_map.1 hx
          split
          · unfold cOk; simp [maxLen, C.null]
          · exact HDOK.out _ (cgetD_mem _ _ (by rw [HCR.out]; exact List.mem_range.1 hi)))).2
        have hrd2 := reads_set (HRD.out.next HB3.out) hqd hri
        rw [redF_len] at hrd2
        obtain ⟨xa, xc, he, hd, hdc⟩ := vrow_dat hv3 hrd2
        rw [List.length_set] at he hdc
        injection he with he1 _ he3
        subst he1 he3
        have htn := HT0.out.next HB3.out
        rw [← HRES.out]
        refine ⟨ca, cc, _, cr, by simp only [List.length_set]; rfl, ⟨htn.gls, hd, htn.gOk, htn.ccap, by simpa using hdc⟩, HB3.out⟩
end Go.Proofs.Ytnjnalehfhfefaa
