/- The walks of table.trueOf, table.marked. -/
import Derived.Test.YtnjnalehfhfefaaK3
import Derived.Test.YtnjnalehfhfefaaTw
namespace Go.Proofs.Ytnjnalehfhfefaa
open Go.RowKit
set_option linter.unusedVariables false

def kv (l : List Int) : List Value := l.map (Value.int .i64)
theorem info_int : (Try.prog.info? 3).map (fun i => (i.zero, i.size, i.bytes)) = some (some (.int .i64 0), 1, 8) := by kernel_rfl
/-- a slice of kinds of one's own -/
def KRow (B : Nat) (xs : List Int) (v : Value) (wr : World) : Prop := wr.ownsRow B 3 1 v xs.length (kv xs)
theorem krow_ints {B : Nat} {xs : List Int} {v : Value} {w : World} (h : KRow B xs v w) : ∃ a c, v = .slice a xs.length c ∧ Ints w w.heap.size a xs := by
  unfold KRow at h
  rcases h.2 with ⟨rfl, h0⟩ | ⟨g, cap, cur, rfl, e2, e3, e4, e5, e6, e7⟩
  · refine ⟨none, 0, by rw [h0], ?_⟩
    rw [List.eq_nil_of_length_eq_zero h0]; exact Sl.nil _ _ _
  · refine ⟨some ⟨g, 0, none⟩, cap, rfl, fun _ => ⟨g, 0, rfl, lt_of_block e3, fun i hi => ?_⟩⟩
    show w.cell? ⟨g, 0 + i * 1, none⟩ = _
    rw [Nat.zero_add, Nat.mul_one, h.cellAt i (by omega)]
    simp [kv, List.getElem?_eq_getElem hi, List.getD]
theorem knilRow (B : Nat) (w : World) : KRow B [] (.slice none 0 0) w := ⟨rfl, Or.inl ⟨rfl, rfl⟩⟩
theorem KRow.below {B : Nat} {xs : List Int} {v : Value} {w w' : World} (h : KRow B xs v w) (hb : Below w.heap.size w w') : KRow B xs v w' := row_below h hb
theorem wpList_append_k {w : World} {ops : Array Oper} {rest : List Oper} {o : Oper} {a : Act} {Q : Exit → Act → World → Prop} (hgd : o.guard = none) (s x : Operand)
    (ho : o.op = .call { callee := .builtin .append, args := #[s, x], argTypes := #[61, 61] }) (base : Nat)
    (v : Value) (xs : List Int) (hs : a.eval s = v) (hown : KRow base xs v w)
    (g : Nat) (y : Int) (hx : a.eval x = .slice (some ⟨g, 0, none⟩) 1 1) (hc : w.cell? ⟨g, 0, none⟩ = some (.int .i64 y))
    (hbytes : (xs.length + 1) * 8 ≤ 140737488355328) (hbase : base ≤ w.heap.size)
    (h : ∀ v' w', KRow base (xs ++ [y]) v' w' → Below base w w' → wpList Try.prog ops Q rest (a.put o.dst v') w') : wpList Try.prog ops Q (o :: rest) a w := by
  obtain ⟨i, hi, hz0, hz1, hz2⟩ := info_parts info_int
  refine wpList_append_own w hgd s x 61 ho base 3 i (.int .i64 0) 1 8 Try.underlying61 hi hz0 hz1 hz2 rfl (by decide) v xs.length (kv xs) hs hown ⟨g, 0, none⟩ 1 1 (kv [y]) hx rfl ?_ ?_ (by unfold maxLen; omega) hbytes hbase (fun v' w' h1 h2 _ => h v' w' ?_ ?_)
  · intro j u hj
    match j, hj with
    | 0, hj => simp [kv] at hj; subst hj; simpa [Addr.add] using hc
  · intro u hu; simp [kv] at hu; subst hu; rfl
  · unfold KRow; unfold kv at h1 ⊢; rw [List.map_append, List.length_append]; exact h1
  · exact (Below.refl base w).grown h2 hbase (fun k hk => (hown.lt k hk).1)

/-- marks that lie in blocks from B on: whatever becomes of those below -/
def FBools (B : Nat) (w : World) (a : Option Addr) (m : List Bool) : Prop := ∀ W : World, (∀ k, B ≤ k → k < w.heap.size → W.heap[k]? = w.heap[k]?) → w.heap.size ≤ W.heap.size → Bools W W.heap.size a m
theorem FBools.bools {B : Nat} {w : World} {a : Option Addr} {m : List Bool} (h : FBools B w a m) : Bools w w.heap.size a m := h w (fun _ _ _ => rfl) (Nat.le_refl _)
theorem FBools.move {B : Nat} {w w' : World} {a : Option Addr} {m : List Bool} (h : FBools B w a m) (hag : ∀ k, B ≤ k → k < w.heap.size → w'.heap[k]? = w.heap[k]?) (hs : w.heap.size ≤ w'.heap.size) : FBools B w' a m :=
  fun W h1 h2 => h W (fun k hk hk2 => (h1 k hk (by omega)).trans (hag k hk hk2)) (by omega)
theorem FBools.next {B : Nat} {w w' : World} {a : Option Addr} {m : List Bool} (h : FBools B w a m) (hb : Below w.heap.size w w') : FBools B w' a m := h.move (fun k _ hk => hb.block k hk) hb.size
theorem MBlk.fbools {B : Nat} {w : World} {g : Nat} {l : List Bool} (h : MBlk w g l) (hg : B ≤ g) : FBools B w (some ⟨g, 0, none⟩) l := fun W h1 h2 => by
  have : MBlk W g l := (h1 g hg h.lt).trans h
  exact this.bools
def MarksPost (m : List Bool) (er : Nat) (w : World) (e : Ending) (w' : World) : Prop := ∃ a c, e = .returned (.tuple #[.slice a m.length c, .int .i64 (er : Nat)]) ∧ FBools w.heap.size w' a m ∧ Below w.heap.size w w'
theorem marks_len (t : Tb.T) (p : List O.Cd) : (Tb.marks t p).length = Tb.rows t := by simp [Tb.marks]
theorem kinds_len (t : Tb.T) : (Tb.kinds t).length = t.cols.length := by simp [Tb.kinds]
theorem kinds_step (t : Tb.T) (j : Nat) (hj : j < t.cols.length) : (Tb.kinds t).take (j + 1) = (Tb.kinds t).take j ++ [(t.cols.getD j Tb.nulC).kind] := by
  unfold Tb.kinds
  rw [List.take_succ_eq_append_getElem (by simpa using hj)]
  simp [List.getD, List.getElem?_eq_getElem hj]
theorem marks_step (f : Nat → Bool) (n j : Nat) (hj : j < n) : (((List.range n).map f).take j ++ List.replicate (n - j) false).set j (f j) = ((List.range n).map f).take (j + 1) ++ List.replicate (n - (j + 1)) false := by
  have hl : (((List.range n).map f).take j).length = j := by simp; omega
  rw [List.set_append_right _ _ (by omega), hl, Nat.sub_self, show n - j = (n - (j + 1)) + 1 by omega, List.replicate_succ, List.set_cons_zero, List.take_succ_eq_append_getElem (by simpa using hj), List.append_assoc]
  simp

set_option maxHeartbeats 4000000 in
set_option maxRecDepth 100000 in
theorem trueOf_any (ap : Option Addr) (cp : Nat) (p : List O.Cd) (ca : Option Addr) (cc : Nat) (da : Option Addr) (dc : Nat) (t : Tb.T) (w : World) (hpm : p.length ≤ maxLen) (hpx : ∀ x ∈ p, dOk x) (hpu : Cds w w.heap.size ap p) (ht : Tbl w w.heap.size ca cc da dc t) (h0 : Tb.check t = 0) :
    Calls Try.prog 65 #[tag ca t.cols.length cc da t.data.length dc, .slice ap p.length cp] w (MarksPost (if O.check p (Tb.kinds t) ≠ 0 then [] else Tb.marks t p) (O.check p (Tb.kinds t)) w) := by
  have hok := Tb.check_ok h0
  have hal : Below w.heap.size w (w.alloc (.cells #[.slice ca t.cols.length cc, .slice da t.data.length dc] 25)) := (Below.refl _ _).alloc (Nat.le_refl _) _
  have hT : Two (w.alloc (.cells #[.slice ca t.cols.length cc, .slice da t.data.length dc] 25)) w.heap.size 25 (.slice ca t.cols.length cc) (.slice da t.data.length dc) := two_new _ _ _ _
  have d0 := hT.c0
  have d1 := hT.c1
  have HT := Lib.hid hT
  have HG := Lib.hid (ht.next hal).gls
  have h6 := hok.six
  have hkl := kinds_len t
  have hrw : Tb.rows t ≤ 128 := by
    by_cases hz : t.cols.length = 0
    · unfold Tb.rows; rw [List.eq_nil_of_length_eq_zero (show t.data.length = 0 by have := hok.len; omega)]; simp
    · have := hok.many 0 (by omega); unfold Tb.rows; omega
  have HC := Lib.hid (fun W a c (hb : Below w.heap.size w W) (hu : Ints W W.heap.size a (Tb.kinds t)) => show Calls Try.prog 75 #[.slice ap p.length cp, .slice a t.cols.length c] W (CErrPost (O.check p (Tb.kinds t)) W) by
    have := pcheck_any ap cp p a c (Tb.kinds t) W hpm hpx (hpu.next at5_firm hb) (by rw [hkl]; unfold maxLen; omega) hu
    rwa [hkl] at this)
  have HR := Lib.hid (fun W (hb : Below w.heap.size w W) => trows_any ca cc da dc t W (ht.next hb))
  have HROW := Lib.hid (fun W (hb : Below w.heap.size w W) k (hk : k < Tb.rows t) => trow_any ca cc da dc t k W (ht.next hb) (by have := hok.six; have := hok.len; omega) (fun i hi => by rw [hok.rows i (by have := hok.len; omega)]; exact hk))
  have hxr : ∀ k, k < Tb.rows t → ∀ x ∈ Tb.rowAt t k, cOk x := fun k hk x hx => by
    unfold Tb.rowAt at hx
    obtain ⟨l, hl, rfl⟩ := List.mem_map.1 hx
    obtain ⟨i, hi, rfl⟩ := List.mem_iff_getElem.1 hl
    obtain ⟨b, off, _, _, hdd⟩ := ht.dat (fun e => by rw [e] at hi; simp at hi)
    obtain ⟨ai, ci, _, hri⟩ := hdd i hi
    have hg : t.data.getD i [] = t.data[i] := by simp [List.getD, List.getElem?_eq_getElem hi]
    rw [hg] at hri
    have hlen := hok.rows i (by have := hok.len; omega)
    rw [hg] at hlen
    exact hri.ok _ (cgetD_mem _ _ (by omega))
  have hrlen : ∀ k, (Tb.rowAt t k).length = t.data.length := fun k => by simp [Tb.rowAt]
  have HASK := Lib.hid (fun W a c ka kc k (hk : k < Tb.rows t) (hb : Below w.heap.size w W) (hku : Ints W W.heap.size ka (Tb.kinds t)) (hu : Cls W W.heap.size a (Tb.rowAt t k)) => show Calls Try.prog 36 #[.slice ap p.length cp, .slice ka t.cols.length kc, .slice a t.data.length c] W (IEPost (O.askR p (Tb.kinds t) (Tb.rowAt t k)) W) by
    have := ask_any ap cp p ka kc (Tb.kinds t) a c (Tb.rowAt t k) W hpm hpx (hpu.next at5_firm hb) (by rw [hkl]; unfold maxLen; omega) hku (by rw [hrlen]; have := hok.six; have := hok.len; unfold maxLen; omega) (hxr k hk) hu
    rwa [hkl, hrlen] at this)
  have HKS := Lib.hid (fun j hj => kinds_step t j hj)
  have HKE := Lib.hid (show (Tb.kinds t).take t.cols.length = Tb.kinds t from List.take_of_length_le (by omega))
  have HKL := Lib.hid (fun j (hj : j ≤ t.cols.length) => show ((Tb.kinds t).take j).length = j by rw [List.length_take, hkl]; omega)
  have HMS := Lib.hid (fun j hj => marks_step (Tb.tru t p) (Tb.rows t) j hj)
  have HME := Lib.hid (show ((List.range (Tb.rows t)).map (Tb.tru t p)).take (Tb.rows t) ++ List.replicate (Tb.rows t - Tb.rows t) false = Tb.marks t p by
    rw [Nat.sub_self, List.take_of_length_le (by simp)]; simp [Tb.marks])
  have HML := Lib.hid (fun j (hj : j ≤ Tb.rows t) => show (((List.range (Tb.rows t)).map (Tb.tru t p)).take j ++ List.replicate (Tb.rows t - j) false).length = Tb.rows t by simp; omega)
  have HMK := Lib.hid (marks_len t p)
  have HTRU := Lib.hid (fun k => show Tb.tru t p k = decide ((O.askR p (Tb.kinds t) (Tb.rowAt t k)).1 = 2) from rfl)
  have hck := O.check_lt p (Tb.kinds t)
  obtain ⟨i0, hi, hz0, hz1, hz2⟩ := info_parts info_bool
  obtain ⟨MM, hMM⟩ : ∃ MM, MM = (if O.check p (Tb.kinds t) ≠ 0 then [] else Tb.marks t p) := ⟨_, rfl⟩
  rw [← hMM]
  have HMM := Lib.hid hMM
  clear hMM
  generalize Tb.tru t p = tru at *
  generalize Tb.marks t p = M at *
  generalize Tb.kinds t = ks at *
  generalize hW : w.alloc (.cells #[.slice ca t.cols.length cc, .slice da t.data.length dc] 25) = W1 at *
  have HW := Lib.hid hW
  clear hW ht hT hpx hpu hkl hok h0 hxr hrlen
  generalize Tb.rows t = n at *
  go_enter Try.func65, Try.ntmps65
  go_wp2_with fail
  rw [HW.out]
  go_wp2_with fail
  go_loopw [6, 8, 17] (fun v _ i wr => ∃ j : Nat, j ≤ t.cols.length ∧ i = .int .i64 j ∧ KRow W1.heap.size (ks.take j) v wr ∧ Below W1.heap.size W1 wr) (fun _ _ i _ => t.cols.length - (intOf i).toNat)
  case atStart => exact ⟨0, by omega, rfl, knilRow _ _, Below.refl _ _⟩
  case round =>
    obtain ⟨j, hj, rfl, hrow, hbw⟩ := hrel
    by_cases hlt : j < t.cols.length
    · obtain ⟨bb, off, rfl, hbb, hcc⟩ := HG.out (fun e => by rw [e] at hlt; simp at hlt)
      obtain ⟨k0, k1⟩ := hcc j hlt
      have e0 := (hbw.cell (p := ⟨bb, off + j * 2, none⟩) hbb).trans k0
      have e1 := (hbw.cell (p := ⟨bb, off + j * 2 + 1, none⟩) hbb).trans k1
      have hst := HKS.out j hlt
      have hll := HKL.out j hj
      generalize (t.cols.getD j Tb.nulC).kind = kd at *
      generalize str (t.cols.getD j Tb.nulC).name = nm at *
      have hjI : (j : Int) < (t.cols.length : Int) := by omega
      have HST := Lib.hid hst
      have hT2 := two_new wr 27 (.string nm) (.int .i64 kd)
      have hwn : Below wr.heap.size wr (wr.alloc (.cells #[.string nm, .int .i64 kd] 27)) := (Below.refl _ _).alloc (Nat.le_refl _) _
      have HROW2 := Lib.hid ((hrow.below hwn).below ((Below.refl _ _).alloc (Nat.le_refl _) (.cells #[.int .i64 kd] 3)))
      have z1 := hT2.c1
      have hlb : ((ks.take j).length + 1) * 8 ≤ 140737488355328 := by omega
      have hb5 : W1.heap.size ≤ ((wr.alloc (.cells #[.string nm, .int .i64 kd] 27)).alloc (.cells #[.int .i64 kd] 3)).heap.size := by have := hbw.size; simp; omega
      have hgl : (wr.alloc (.cells #[.string nm, .int .i64 kd] 27)).heap.size = wr.heap.size + 1 := by simp
      have HB5 := Lib.hid (((hbw.alloc hbw.size (.cells #[.string nm, .int .i64 kd] 27))).alloc (by have := hbw.size; simp; omega) (.cells #[.int .i64 kd] 3))
      have HCN := Lib.hid (show ((wr.alloc (.cells #[.string nm, .int .i64 kd] 27)).alloc (.cells #[.int .i64 kd] 3)).cell? ⟨wr.heap.size + 1, 0, none⟩ = some (.int .i64 kd) by rw [← hgl]; exact World.cell?_alloc_new _ _ _ _)
      clear hrow hst k0 k1 hcc hll hT2 hgl
      go_wp2_with (at_builtin; refine wpList_append_k rfl (.tmp 21) (.tmp 24) rfl W1.heap.size _ (ks.take j) rfl HROW2.out (wr.heap.size + 1) kd rfl HCN.out hlb hb5 ?_)
      intro v' w5 hown5 hb5w
      have hbw5 := HB5.out.trans hb5w
      clear hb5w
      go_wp2_with fail
      exact ⟨⟨j + 1, by omega, by go_num, by rw [HST.out]; exact hown5, hbw5⟩, by simp [intOf]; omega⟩
    · obtain rfl : j = t.cols.length := by omega
      rw [HKE.out] at hrow
      obtain ⟨ka, kc, hvk, hku⟩ := krow_ints hrow
      have hkl2 : ks.length = t.cols.length := by have := HKL.out _ (Nat.le_refl _); rw [HKE.out] at this; exact this
      rw [hkl2] at hvk
      subst hvk
      have hbw0 := below_then hal hbw
      have HKU := Lib.hid hku
      clear hku hrow hkl2
      by_cases hc : O.check p ks ≠ 0
      · obtain rfl : MM = [] := HMM.out.trans (if_pos hc)
        clear HMM
        generalize O.check p ks = er at *
        have g1 : ((er : Int) != 0) = true := by rw [bne_iff_ne]; omega
        go_wp2_with fail
        refine (HC.out _ ka kc hbw0 HKU.out).mono ?_
        rintro e w2 ⟨rfl, hb2⟩
        go_wp2_with fail
        go_ret2
        exact ⟨none, 0, rfl, (fun W _ _ => Bools.nil _ _ _), below_then hbw0 hb2⟩
      · obtain rfl : MM = M := HMM.out.trans (if_neg hc)
        have hc0 : O.check p ks = 0 := by omega
        have HC0 := Lib.hid hc0
        rw [hc0] at HC
        clear HMM hck hc hc0
        go_wp2_with fail
        refine (HC.out _ ka kc hbw0 HKU.out).mono ?_
        rintro e w2 ⟨rfl, hb2⟩
        have hT2 := Lib.hid ((HT.out.next hbw).next hb2)
        have HKU2 := Lib.hid (HKU.out.next at1_firm hb2)
        have hb2 := below_then hbw0 hb2
        have z0 := hT2.out.c0
        have z1 := hT2.out.c1
        clear HC HKU hbw
        go_wp2_with fail
        refine (HR.out _ hb2).mono ?_
        rintro e w3 ⟨rfl, hb3⟩
        have hT3 := Lib.hid (hT2.out.next hb3)
        have HKU3 := Lib.hid (HKU2.out.next at1_firm hb3)
        have hb3 := below_then hb2 hb3
        clear z0 z1
        go_wp2_with (at_make; refine wpList_make_full _ rfl _ _ 86 rfl w3.heap.size 4 i0 (.bool false) 1 Try.underlying86 hi hz0 hz1 .i64 .i64 _ _ n rfl rfl rfl rfl (by rw [hz2]; omega) (by unfold maxLen; omega) (Nat.le_refl _) ?_; intro w4 hown4 hgrow4)
        have hb4 : Below w3.heap.size w3 w4 := (Below.refl _ _).grown hgrow4 (Nat.le_refl _) (fun k hk => by cases hk)
        have hblk := made_mblk hown4
        clear hown4 hgrow4
        have hw3n : ∀ W, Below w3.heap.size w3 W → Below w.heap.size w W := fun W h => below_then hb3 h
        obtain ⟨g, hg⟩ : ∃ g, g = w3.heap.size := ⟨_, rfl⟩
        rw [← hg] at hblk ⊢
        have hgl : w3.heap.size ≤ g := by omega
        have HB0 := Lib.hid hblk
        clear hg hblk
        go_wp2_with fail
        go_loopw [11, 12, 13, 38] (fun _ _ _ i wr => ∃ j : Nat, j ≤ n ∧ i = .int .i64 j ∧ MBlk wr g (((List.range n).map tru).take j ++ List.replicate (n - j) false) ∧ Below w3.heap.size w3 wr) (fun _ _ _ i _ => n - (intOf i).toNat)
        case atStart => exact ⟨0, by omega, rfl, by simpa using HB0.out, hb4⟩
        case round =>
          obtain ⟨j, hj, rfl, hblk, hbw⟩ := hrel
          by_cases hlt : j < n
          · have hTr := Lib.hid (hT3.out.next hbw)
            have z0 := hTr.out.c0
            have z1 := hTr.out.c1
            have hb0 := hw3n _ hbw
            have HRJ := Lib.hid (HROW.out wr hb0 j hlt)
            have HKJ := Lib.hid (HKU3.out.next at1_firm hbw)
            have HAJ := Lib.hid (fun W a c hb h1 h2 => HASK.out W a c ka kc j hlt hb h1 h2)
            have hst := HMS.out j hlt
            have htr := HTRU.out j
            have HBK := Lib.hid hblk
            have hln := HML.out j hj
            generalize hrow : Tb.rowAt t j = row at *
            have hrl : row.length = t.data.length := by rw [← hrow]; simp [Tb.rowAt]
            have hjI : (j : Int) < (n : Int) := by omega
            obtain ⟨r1, hr1⟩ : ∃ r1, r1 = (O.askR p ks row).1 := ⟨_, rfl⟩
            obtain ⟨r2, hr2⟩ : ∃ r2, r2 = (O.askR p ks row).2 := ⟨_, rfl⟩
            have HA2 := Lib.hid (fun W a c (hb : Below w.heap.size w W) (h1 : Ints W W.heap.size ka ks) (h2 : Cls W W.heap.size a row) => show Calls Try.prog 36 #[.slice ap p.length cp, .slice ka t.cols.length kc, .slice a t.data.length c] W (fun e w' => e = .returned (.tuple #[.int .i64 (r1 : Nat), .int .i64 (r2 : Nat)]) ∧ Below W.heap.size W w') by
              rw [hr1, hr2]; exact HAJ.out W a c hb h1 h2)
            rw [← hr1] at htr
            clear HAJ hr1 hr2 hrow
            have HRL := Lib.hid hrl
            have hq : ((r1 : Int) == 2) = tru j := by
              rw [htr]
              by_cases h : r1 = 2
              · subst h; rfl
              · rw [decide_eq_false h, beq_eq_false_iff_ne]; omega
            rw [← hq] at hst
            have HST := Lib.hid hst
            clear hst htr hq hrl hblk
            go_wp2_with fail
            refine (HRJ.out).mono ?_
            rintro e w5 ⟨v5, rfl, hr5, hb5⟩
            obtain ⟨a5, c5, rfl, hu5, -⟩ := cRow_cls hr5
            rw [HRL.out] at *
            have hb50 := below_then hb0 hb5
            have HKJ5 := Lib.hid (HKJ.out.next at1_firm hb5)
            go_wp2_with fail
            refine (HA2.out _ a5 c5 hb50 HKJ5.out hu5).mono ?_
            rintro e w6 ⟨rfl, hb6⟩
            have hb56 := below_then hb5 hb6
            have hm6 := HBK.out.below hb56
            have q0 := hm6.cell j (by omega)
            have q1 := hm6.free j
            have hm7 := hm6.put j ((r1 : Int) == 2)
            have hb7 : Below w3.heap.size w3 (w6.setCell ⟨g, j, none⟩ (.bool ((r1 : Int) == 2))) := (below_then hbw hb56).setCell (p := ⟨g, j, none⟩) hgl _
            rw [HST.out] at hm7
            go_wp2_with fail
            exact ⟨⟨j + 1, by omega, by go_num, hm7, hb7⟩, by simp [intOf]; omega⟩
          · obtain rfl : j = n := by omega
            rw [HME.out] at hblk
            have hu := hblk.fbools (B := w.heap.size) (by have := hb3.size; omega)
            go_wp2_with fail
            go_ret2
            exact ⟨some ⟨g, 0, none⟩, MM.length, by rw [HC0.out, HMK.out]; rfl, hu, hw3n _ hbw⟩

theorem marked_step (l : List C.Cl) (m : List Bool) (j : Nat) (h : j < m.length) (hl : m.length = l.length) : Tb.marked (l.take (j + 1)) (m.take (j + 1)) = if m.getD j false = true then Tb.marked (l.take j) (m.take j) ++ [l.getD j C.null] else Tb.marked (l.take j) (m.take j) := by
  unfold Tb.marked
  rw [List.take_succ_eq_append_getElem (show j < l.length by omega), List.take_succ_eq_append_getElem h, List.zip_append (by simp; omega)]
  simp only [List.getD, List.getElem?_eq_getElem h, List.getElem?_eq_getElem (show j < l.length by omega), Option.getD_some]
  rw [List.filter_append, List.map_append]
  by_cases hb : m[j] = true
  · simp [hb]
  · simp [hb]
theorem marked_le (l : List C.Cl) (m : List Bool) : (Tb.marked l m).length ≤ l.length := by
  unfold Tb.marked
  rw [List.length_map]
  exact Nat.le_trans (List.length_filter_le _ _) (by rw [List.length_zip]; omega)

set_option maxHeartbeats 1000000 in
set_option maxRecDepth 100000 in
theorem marked_any (a : Option Addr) (c : Nat) (l : List C.Cl) (am : Option Addr) (cm : Nat) (m : List Bool) (w : World) (hm : m.length ≤ 1048576) (hl : m.length = l.length) (hu : Cls w w.heap.size a l) (hum : Bools w w.heap.size am m) :
    Calls Try.prog 67 #[.slice a l.length c, .slice am m.length cm] w (CellsRowPost (Tb.marked l m) w) := by
  have HU := Lib.hid hu
  have HM := Lib.hid hum
  have HST := Lib.hid (fun j h => marked_step l m j h hl)
  have HE := Lib.hid (show Tb.marked (l.take m.length) (m.take m.length) = Tb.marked l m by rw [List.take_of_length_le (by omega), List.take_of_length_le (Nat.le_refl _)])
  have HLE := Lib.hid (fun j (hj : j ≤ m.length) => show (Tb.marked (l.take j) (m.take j)).length ≤ j from Nat.le_trans (marked_le _ _) (by simp; omega))
  have HLN := Lib.hid hl
  obtain ⟨f, hf⟩ : ∃ f : Nat → List C.Cl, f = fun j => Tb.marked (l.take j) (m.take j) := ⟨_, rfl⟩
  have hf0 : f 0 = [] := by rw [hf]; rfl
  have HST := Lib.hid (fun j (h : j < m.length) => show f (j + 1) = if m.getD j false = true then f j ++ [l.getD j C.null] else f j by rw [hf]; exact HST.out j h)
  have HE := Lib.hid (show f m.length = Tb.marked l m by rw [hf]; exact HE.out)
  have HLE := Lib.hid (fun j (hj : j ≤ m.length) => show (f j).length ≤ j by rw [hf]; exact HLE.out j hj)
  generalize Tb.marked l m = R at *
  clear hu hum hl hf
  have HF0 := Lib.hid hf0
  clear hf0
  go_enter Try.func67, Try.ntmps67
  go_wp2_with fail
  go_loopw [5, 6, 7, 10] (fun v _ _ i wr => ∃ j : Nat, j ≤ m.length ∧ i = .int .i64 j ∧ CRow w.heap.size (f j) v wr ∧ Below w.heap.size w wr) (fun _ _ _ i _ => m.length - (intOf i).toNat)
  case atStart => exact ⟨0, by omega, rfl, by rw [HF0.out]; exact cnilRow _ _, Below.refl _ _⟩
  case round =>
    obtain ⟨j, hj, rfl, hrow, hbw⟩ := hrel
    by_cases hlt : j < m.length
    · obtain ⟨bb, boff, rfl, hbb, hbc⟩ := HM.out (fun e => by rw [e] at hlt; simp at hlt)
      have hltl : j < l.length := by have := HLN.out; omega
      obtain ⟨b, off, rfl, hb, hcell⟩ := HU.out (fun e => by rw [e] at hltl; simp at hltl)
      obtain ⟨k0, k1, k2⟩ := hcell j hltl
      have m0 := (hbw.cell (p := ⟨bb, boff + j, none⟩) hbb).trans (hbc j hlt)
      have e0 := (hbw.cell (p := ⟨b, off + j * 3, none⟩) hb).trans k0
      have e1 := (hbw.cell (p := ⟨b, off + j * 3 + 1, none⟩) hb).trans k1
      have e2 := (hbw.cell (p := ⟨b, off + j * 3 + 2, none⟩) hb).trans k2
      have hst := HST.out j hlt
      have hle := HLE.out j hj
      have hjI : (j : Int) < (m.length : Int) := by omega
      have hjL : (j : Int) < (l.length : Int) := by omega
      generalize l.getD j C.null = x at *
      obtain ⟨z, n, x⟩ := x
      generalize m.getD j false = bm at *
      simp only at e0 e1 e2
      generalize hX : str x = X at *
      have HROW := Lib.hid hrow
      cases bm with
      | false =>
        rw [if_neg (by simp)] at hst
        have HSX := Lib.hid hst
        clear hst hrow k0 k1 k2 hcell hbc
        go_wp2_with fail
        exact ⟨⟨j + 1, by omega, by go_num, by rw [HSX.out]; exact HROW.out, hbw⟩, by simp [intOf]; omega⟩
      | true =>
        rw [if_pos rfl] at hst
        have HSX := Lib.hid hst
        have hlb : ((f j).length + 1) * 32 ≤ 140737488355328 := by omega
        have hb5 : w.heap.size ≤ (wr.alloc (.cells #[.int .i64 z, .int .u64 (n : Int), .string X] 30)).heap.size := by have := hbw.size; simp; omega
        clear hst hrow k0 k1 k2 hcell hbc hle
        go_wp2_with (at_builtin; refine wpList_append_onec rfl (.tmp 16) (.tmp 21) rfl w.heap.size _ (f j) rfl (HROW.out.alloc_ _) wr.heap.size ⟨z, n, x⟩ rfl (World.cell?_alloc_new _ _ _ _) (World.cell?_alloc_new _ _ _ _) (by rw [hX]; exact World.cell?_alloc_new _ _ _ _) hlb hb5 ?_)
        intro v' w5 hown5 hb5w hg5
        have hbw5 : Below w.heap.size w w5 := (hbw.alloc hbw.size _).trans hb5w
        clear hb5w hg5
        go_wp2_with fail
        exact ⟨⟨j + 1, by omega, by go_num, by rw [HSX.out]; exact hown5, hbw5⟩, by simp [intOf]; omega⟩
    · obtain rfl : j = m.length := by omega
      rw [HE.out] at hrow
      go_wp2_with fail
      go_ret
      exact ⟨_, rfl, hrow, hbw⟩
end Go.Proofs.Ytnjnalehfhfefaa
