/- The law RestTexts. -/
import Derived.Test.YtmiboibadccceaaGreatKL3
import Derived.Test.YtmiboibadccceaaGreatKL5
import Derived.Test.YtmiboibadccceaaGreatKX3
import Derived.Test.YtmiboibadccceaaGreatKX4
import Derived.Test.YtmiboibadccceaaGreatKX5
import Derived.Test.YtmiboibadccceaaGreatTB
namespace Go.Proofs.YtmiboibadccceaaGreat
open Go.RowKit
set_option linter.unusedVariables false

/-- append of texts that came in, nil too, onto a row of the call's own -/
theorem wpList_append_txts {w : World} {ops : Array Oper} {rest : List Oper} {o : Oper} {a : Act} {Q : Exit → Act → World → Prop} (hgd : o.guard = none) (s x : Operand)
    (ho : o.op = .call { callee := .builtin .append, args := #[s, x], argTypes := #[31, 31] }) (base : Nat)
    (v : Value) (xs : List (List UInt8)) (hs : a.eval s = v) (hown : TRow base xs v w)
    (A : Option Addr) (m c : Nat) (l : List (List UInt8)) (hm : l.length = m) (hx : a.eval x = .slice A m c) (hnil : A = none → c = 0) (hu : Txts w w.heap.size A l)
    (hbytes : (xs.length + m) * 16 ≤ 140737488355328) (hbase : base ≤ w.heap.size)
    (h : ∀ v' w', TRow base (xs ++ l) v' w' → Below base w w' → wpList Tryz.prog ops Q rest (a.put o.dst v') w') : wpList Tryz.prog ops Q (o :: rest) a w := by
  obtain ⟨i, hi, hz0, hz1, hz2⟩ := info_parts info_str
  match A, hnil, hu, hx with
  | none, hnil, hu, hx =>
    have hl : l = [] := by
      by_cases hl : l = []
      · exact hl
      · obtain ⟨b, off, e, _⟩ := hu hl; cases e
    subst hl
    obtain rfl : m = 0 := hm.symm
    obtain rfl : c = 0 := hnil rfl
    exact wpList_append_own_none hgd s x 31 ho base 9 i 1 Tryz.underlying31 hi v xs.length (tv xs) hs hown hx (h v w (by simpa using hown) (Below.refl _ _))
  | some ad, hnil, hu, hx =>
    refine wpList_append_own w hgd s x 31 ho base 9 i (.string ByteArray.empty) 1 16 Tryz.underlying31 hi hz0 hz1 hz2 rfl (by decide) v xs.length (tv xs) hs hown ad m c (tv l) hx (by simp [tv, hm]) ?_ ?_ (by unfold maxLen; omega) hbytes hbase (fun v' w' h1 h2 _ => h v' w' ?_ ?_)
    · intro j u hj
      have hjl : j < l.length := by
        rcases Nat.lt_or_ge j l.length with h | h
        · exact h
        · rw [List.getElem?_eq_none (by simp [tv]; exact h)] at hj; simp at hj
      obtain ⟨b, off, e, _, hc⟩ := hu (by intro e; rw [e] at hjl; simp at hjl)
      have e := Option.some.inj e
      subst e
      have hadd : (⟨b, off, none⟩ : Addr).add j = ⟨b, off + j, none⟩ := by unfold Addr.add; split <;> simp_all
      rw [hadd, hc j hjl, ← hj]
      simp [tv, List.getElem?_eq_getElem hjl]
    · intro u hu
      simp only [tv, List.mem_map] at hu
      obtain ⟨x, _, rfl⟩ := hu
      rfl
    · unfold TRow; rw [List.length_append, hm]; simpa [tv] using h1
    · exact (Below.refl base w).grown h2 hbase (fun k hk => (hown.lt k hk).1)
theorem Txts.take {w : World} {B' : Nat} {a : Option Addr} {l : List (List UInt8)} (h : Txts w B' a l) (k : Nat) : Txts w B' a (l.take k) := by
  intro hl
  obtain ⟨b, off, e, hb, hc⟩ := h (fun e => hl (by rw [e]; simp))
  refine ⟨b, off, e, hb, fun i hi => ?_⟩
  rw [List.length_take] at hi
  rw [hc i (by omega)]
  simp [List.getD, show i < k by omega]
theorem rt_room (l : List (List UInt8)) : (ofR l).1.length ≤ 64 := by
  unfold ofR
  by_cases h : fitR l ≠ 0
  · rw [if_pos h]; exact Nat.zero_le _
  · rw [if_neg h]
    have h1 := bk_length l
    have h2 := (fit_zero (Classical.not_not.1 h)).1
    simp only; omega
def room : List UInt8 := [114, 111, 111, 109]

theorem rt_same {l : List (List UInt8)} {B : Nat} {g c4' : Nat} {a : Option Addr} {W : World} (h : Txts W B (some ⟨g, 0, none⟩) l) (hu : Txts W B a l) (hB : B ≤ W.heap.size) (hl : l.length < 9223372036854775807) (c4 c : Nat) (p : WB W) :
    Calls Tryz.prog 27 #[.slice (some ⟨g, 0, none⟩) l.length c4, .slice a l.length c] p.w (BoolPost true p.w) := by
  have := tsame_any (some ⟨g, 0, none⟩) a c4 c l l p.w _ ((h.mono hB).below p.below) ((hu.mono hB).below p.below) hl
  rwa [decide_eq_true rfl] at this
theorem rt_take {W : World} {B g : Nat} {l : List (List UInt8)} {y : List UInt8} (h : Txts W B (some ⟨g, 0, none⟩) (l ++ [y])) : Txts W B (some ⟨g, 0, none⟩) l := by
  have := h.take l.length
  rwa [List.take_left] at this
theorem rt_last {W : World} {B g : Nat} {l : List (List UInt8)} {y : List UInt8} (h : Txts W B (some ⟨g, 0, none⟩) (l ++ [y])) (hB : B ≤ W.heap.size) (p : WB W) : p.w.cell? ⟨g, l.length, none⟩ = some (.string (str y)) := by
  obtain ⟨b, off, e, hb, hc⟩ := h (by simp)
  injection e with e
  injection e with e1 e2
  subst e1 e2
  have hk := hc l.length (by simp)
  rw [show (l ++ [y]).getD l.length [] = y by simp [List.getD], Nat.zero_add] at hk
  exact p.cell (by omega) hk

set_option maxHeartbeats 4000000 in
set_option maxRecDepth 100000 in
theorem restTexts_walk (w : World) (a : Option Addr) (c : Nat) (l : List (List UInt8)) (hm : l.length ≤ maxLen) (hcap : l.length ≤ c ∧ c ≤ maxLen ∧ (a = none → c = 0)) (hx : ∀ x ∈ l, x.length ≤ maxLen) (hu : Txts w w.heap.size a l) (hr : l.length * 16 ≤ 140737488351232) :
    Calls Tryz.prog 11 #[.slice a l.length c] w (BoolPost true w) := by
  obtain ⟨i0, hi, hz0, hz1, hz2⟩ := info_parts info_str
  have hl1 : IntKind.i64.wrap ((l.length : Int) + 1) = (l.length : Int) + 1 := by rw [IntKind.wrap_i64]; omega
  have HU := Lib.hid hu
  have HNIL := Lib.hid hcap.2.2
  obtain ⟨R0, hR0, HDI⟩ : ∃ R0 : List (List UInt8) × List Nat × Nat, R0.1.length ≤ 64 ∧ Hid (∀ g c4 W, Txts W W.heap.size (some ⟨g, 0, none⟩) l → Calls Tryz.prog 32 #[.slice (some ⟨g, 0, none⟩) l.length c4] W (OfPostF R0 W)) :=
    ⟨_, rt_room l, Lib.hid fun g c4 W h => dictOff_any _ c4 l W h⟩
  obtain ⟨T, E, R2, hR2, HBN, HRN⟩ : ∃ (T : ByteArray) (E : Nat) (R2 : List (List UInt8) × Nat), R2.1.length ≤ 64
      ∧ Hid (∀ g c4 W, Txts W W.heap.size (some ⟨g, 0, none⟩) l → Calls Tryz.prog 18 #[.slice (some ⟨g, 0, none⟩) l.length c4] W (fun e w' => e = .returned (.tuple #[.string T, .int .i64 (E : Int)]) ∧ Below W.heap.size W w'))
      ∧ Hid (∀ W, Calls Tryz.prog 23 #[.string T, .int .i64 (l.length : Int)] W (TextsPostF R2 W)) := by
    refine ⟨str (bestTR l).1, (bestTR l).2, tlR (bestTR l).1 l.length, tlR_len _ _, Lib.hid fun g c4 W h3 => kbestTexts_any _ c4 l W h3, Lib.hid fun W => readTextsf_any _ _ W ?_⟩
    unfold bestTR
    by_cases hbig : fitR l ≠ 0
    · rw [if_pos hbig]; exact Nat.zero_le _
    · rw [if_neg hbig]; exact tbest_short l (Classical.not_not.1 hbig)
  clear hu hx hcap
  go_enter Tryz.func11, Tryz.ntmps11
  go_wp2_with (at_make; refine wpList_make_own _ rfl _ _ 31 rfl w.heap.size 9 i0 (.string ByteArray.empty) 1 Tryz.underlying31 hi hz0 hz1 .i64 .i64 _ (l.length + 1) rfl rfl (by omega) (by rw [hz2]; omega) (by unfold maxLen; omega) (Nat.le_refl _) ?_)
  intro w1 hown1 hgrow1
  have hb1 : Below w.heap.size w w1 := (Below.refl _ _).grown hgrow1 (Nat.le_refl _) (fun k hk => by cases hk)
  have HOWN1 := Lib.hid (show TRow w.heap.size [] _ w1 from hown1)
  have HUB1 := Lib.hid (HU.out.next hb1)
  have hbs1 := hb1.size
  have HBY := Lib.hid (show (([] : List (List UInt8)).length + l.length) * 16 ≤ 140737488355328 by simp; omega)
  clear hown1 hgrow1
  go_wp2_with (at_builtin; refine wpList_append_txts rfl (.tmp 19) (.tmp 20) rfl w.heap.size _ [] rfl HOWN1.out a l.length c l rfl rfl HNIL.out HUB1.out HBY.out hbs1 ?_)
  intro v2 w2 hrow2 hgrow2
  have h2 : Below w.heap.size w w2 := hb1.trans hgrow2
  replace hrow2 : TRow w.heap.size l v2 w2 := hrow2
  clear hgrow2 HOWN1 HUB1 HBY hb1 hbs1
  obtain ⟨a2, c2, rfl, _, _, _⟩ := tRow_txts hrow2
  have HROW2 := Lib.hid hrow2
  clear hrow2
  have hb5 : w.heap.size ≤ (w2.alloc (.cells #[.string ⟨#[114, 111, 111, 109]⟩] 9)).heap.size := by have := h2.size; simp; omega
  have hlb : (l.length + 1) * 16 ≤ 140737488355328 := by omega
  go_wp2_with (at_builtin; refine wpList_append_onet rfl (.tmp 21) (.tmp 22) rfl w.heap.size _ l rfl (HROW2.out.alloc_ _) w2.heap.size room rfl (World.cell?_alloc_new _ _ _ _) hlb hb5 ?_)
  intro v4 w4 hrow4 hgrow4
  have h4 : Below w.heap.size w w4 := (h2.alloc h2.size _).trans hgrow4
  clear hgrow4 HROW2 h2 hb5 hlb
  obtain ⟨a4, c4, rfl, hN4, hc4, hc4m⟩ := tRow_txts hrow4
  obtain ⟨g, rfl, -, hgw, hgl⟩ := hrow4.form (by simp)
  have hl77 : (l ++ [room]).length = l.length + 1 := by simp
  rw [hl77] at hc4 ⊢
  clear hl77
  have hc4I : (l.length : Int) ≤ (c4 : Int) := by omega
  have hc4J : (l.length : Int) + 1 ≤ (c4 : Int) := by omega
  have hnt := rt_take hN4
  have HN4 := Lib.hid hN4
  have HC4 := Lib.hid (show l.length ≤ c4 ∧ c4 ≤ maxLen from ⟨by omega, hc4m⟩)
  have HW4 := Lib.hid h4
  have HLEN := Lib.hid (show l.length < 9223372036854775807 by omega)
  have hb := Below.refl w4.heap.size w4
  clear hrow4 hN4 hc4 hc4m hgw hr h4
  go_wp2_with fail
  refine (HDI.out g c4 _ hnt).mono ?_
  rintro e w5 ⟨a0, c0, a1, c1, rfl, ⟨n0, f0⟩, -, hb5⟩
  have s0 := Sto.txts (c := c0) n0 f0
  replace hnt := hnt.next hb5
  replace hb := below_then hb hb5
  clear n0 f0 hb5 HDI
  go_wp2_with fail
  refine (HBN.out g c4 _ hnt).mono ?_
  rintro e w8 ⟨rfl, hb5⟩
  replace hnt := hnt.next hb5
  replace s0 := (s0.next hb5).up hb5.size
  replace hb := below_then hb hb5
  clear hb5
  go_wp2_with fail
  refine (HRN.out _).mono ?_
  rintro e w9 ⟨a2', c2', rfl, ⟨n2, f2⟩, hb5⟩
  have s2 := (Sto.txts (c := c2') n2 f2)
  have f2s := hb.size
  replace hnt := hnt.next hb5
  replace s0 := (s0.next hb5).up hb5.size
  replace hb := below_then hb hb5
  clear n2 f2 hb5 HRN
  go_wp2_with fail
  refine (tbegun_any _).mono ?_
  rintro e w10 ⟨rfl, hb5⟩
  replace hnt := hnt.next hb5
  replace s0 := (s0.next hb5).up hb5.size
  replace s2 := (s2.next hb5).up hb5.size
  replace hb := below_then hb hb5
  clear hb5
  go_wp2_with fail
  refine (kbegun_any _).mono ?_
  rintro e w11 ⟨rfl, hb5⟩
  replace hnt := hnt.next hb5
  replace s0 := (s0.next hb5).up hb5.size
  replace s2 := (s2.next hb5).up hb5.size
  replace hb := below_then hb hb5
  clear hb5 hnt
  obtain ⟨S, hS⟩ : ∃ S : Nat → Option Addr × Nat × Nat, S = fun j => match j with | 0 => (a0, R0.1.length, c0) | _ => (a2', R2.1.length, c2') := ⟨_, rfl⟩
  obtain ⟨L, hL⟩ : ∃ L, L = w11.heap.size := ⟨_, rfl⟩
  obtain ⟨W0, hW0⟩ : ∃ W0, W0 = w11.alloc (.cells #[.slice a0 R0.1.length c0, .slice a2' R2.1.length c2'] 31) := ⟨_, rfl⟩
  have low {X : World} {B B' : Nat} {s : Option Addr × Nat × Nat} (h : Sto B L X s) (hB : B' ≤ B) : Sto B' L X s := fun hn => by obtain ⟨g, off, e, h1, h2⟩ := h hn; exact ⟨g, off, e, by omega, h2⟩
  have hST : ∀ j, j < 2 → Sto w4.heap.size L W0 (S j) := fun j hj => by
    have hbA : Below L w11 W0 := by rw [hL, hW0]; exact (Below.refl _ _).alloc (Nat.le_refl _) _
    rw [← hL] at s0 s2
    rw [hS]
    match j, hj with
    | 0, _ => exact low (s0.next hbA) (by omega)
    | 1, _ => exact low (s2.next hbA) (by omega)
  have hSN : ∀ j, j < 2 → (S j).2.1 ≤ 64 := fun j hj => by
    rw [hS]
    match j, hj with
    | 0, _ => exact hR0
    | 1, _ => exact hR2
  have hSC : ∀ j, j < 2 → W0.cell? ⟨L, j, none⟩ = some (.slice (S j).1 (S j).2.1 (S j).2.2) := fun j hj => by
    rw [hS, hL, hW0]
    match j, hj with
    | 0, _ => exact World.cell?_alloc_new _ _ _ _
    | 1, _ => exact World.cell?_alloc_new _ _ _ _
  have hbL : w4.heap.size ≤ L := by rw [hL]; exact hb.size
  have hb0 : Below w4.heap.size w4 W0 := by rw [hW0]; exact hb.alloc hb.size _
  have HST := Lib.hid hST
  have HSN := Lib.hid hSN
  have HSC := Lib.hid hSC
  have HW0 := Lib.hid hW0
  have HL := Lib.hid hL
  clear hST hSN hSC s0 s2 hR0 hR2 hS low hb f2s
  go_wp2_with fail
  rw [← HW0.out, ← HL.out]
  clear hW0 hL HW0 HL
  go_loopw [12, 13, 55] (fun _ _ i wr => ∃ j : Nat, j ≤ 2 ∧ i = .int .i64 j ∧ (∀ k, k < 2 → wr.cell? ⟨L, k, none⟩ = some (.slice (S k).1 (S k).2.1 (S k).2.2)) ∧ (∀ k, k < 2 → Sto w4.heap.size L wr (S k)) ∧ Below w4.heap.size w4 wr) (fun _ _ i _ => 2 - (intOf i).toNat)
  case atStart => exact ⟨0, by omega, rfl, HSC.out, HST.out, hb0⟩
  case round =>
    clear HSC HST hb0
    obtain ⟨j, hj, rfl, hSC, hST, hbw⟩ := hrel
    by_cases hlt : j < 2
    · have hjI : (j : Int) < (2 : Int) := by omega
      have cj := hSC j hlt
      have hn := HSN.out j hlt
      have HSC := Lib.hid hSC
      have HST := Lib.hid hST
      have HSJ := Lib.hid (fun W (h : ∀ k, k < 2 → Sto w4.heap.size L W (S k)) => h j hlt)
      obtain ⟨⟨A, n, cc⟩, hs⟩ : ∃ s, s = S j := ⟨_, rfl⟩
      rw [← hs] at cj hn HSJ
      simp only at cj hn
      clear hSC hST hs
      go_wp2_with fail
      go_loopw [13] (fun i wr => ∃ q : Nat, q ≤ n ∧ i = .int .i64 q ∧ Hid (∀ k, k < 2 → wr.cell? ⟨L, k, none⟩ = some (.slice (S k).1 (S k).2.1 (S k).2.2)) ∧ Hid (∀ k, k < 2 → Sto w4.heap.size L wr (S k)) ∧ Below w4.heap.size w4 wr) (fun i _ => n - (intOf i).toNat)
      case atStart => exact ⟨0, by omega, rfl, HSC, HST, hbw⟩
      case round =>
        clear HSC HST hbw
        obtain ⟨q, hq, rfl, HSC, HST, hbw⟩ := hrel
        by_cases hlt2 : q < n
        · obtain ⟨gs, off, hA, hg1, hg2, hcs, hfs⟩ := HSJ.out _ HST.out (by simp only; omega)
          simp only at hA
          subst hA
          obtain ⟨old, cq⟩ := hcs q hlt2
          have fq := hfs q
          have hqI : (q : Int) < (n : Int) := by omega
          have HC2 := Lib.hid (fun k hk => show (World.setCell _ ⟨gs, off + q, none⟩ (.string ⟨#[122]⟩)).cell? ⟨L, k, none⟩ = _ from (World.cell?_setCell_far _ _ _ _ (by simp only; omega)).trans (HSC.out k hk))
          have HS2 := Lib.hid (fun k hk => (HST.out k hk).set ⟨gs, off + q, none⟩ (.string ⟨#[122]⟩))
          have hbw2 := hbw.setCell (p := ⟨gs, off + q, none⟩) hg1 (.string ⟨#[122]⟩)
          clear hcs hfs
          go_wp2_with fail
          exact ⟨⟨q + 1, by omega, by go_num, HC2, HS2, hbw2⟩, by simp [intOf]; omega⟩
        · obtain rfl : q = n := by omega
          go_wp2_with fail
          exact ⟨⟨j + 1, by omega, by go_num, HSC.out, HST.out, hbw⟩, by simp [intOf]; omega⟩
    · obtain rfl : j = 2 := by omega
      have hn4 := HN4.out.below hbw
      have hu4 := (HU.out.next HW4.out).below hbw
      have hs4 := hbw.size
      have hnt := (rt_take hn4).mono hs4
      have hbo := below_then HW4.out hbw
      have HN5 := Lib.hid hn4
      have HU5 := Lib.hid hu4
      clear hSC hST HSN hn4 hu4
      go_wp2_with fail
      refine (HBN.out g c4 _ hnt).mono ?_
      rintro e w12 ⟨rfl, hb5⟩
      have hbo2 := below_then hbo hb5
      have hB5 : w4.heap.size ≤ w12.heap.size := by have := hb5.size; omega
      have hn6 := HN5.out.below (hb5.mono hs4)
      have hu6 := HU5.out.below (hb5.mono hs4)
      have HSX := Lib.hid (rt_same (c4' := 0) (rt_take hn6) hu6 hB5 HLEN.out c4 c)
      have q0 : ∀ p : WB w12, p.w.cell? ⟨g, l.length, none⟩ = some (.string ⟨#[114, 111, 111, 109]⟩) := rt_last hn6 hB5
      have hi1 : (l.length : Int) < (l.length : Int) + 1 := by omega
      have hi2 : (0 : Int) ≤ (l.length : Int) + 1 := by omega
      have hi3 : ((l.length : Int) + 1).toNat = l.length + 1 := by omega
      have hro : ((⟨#[114, 111, 111, 109]⟩ : ByteArray).toList == (⟨#[114, 111, 111, 109]⟩ : ByteArray).toList) = true := by rw [beq_iff_eq]
      have hte : (T.toList == T.toList) = true := by rw [beq_iff_eq]
      clear HN5 HU5 hn6 hu6 hnt hb5 HBN HN4 HC4 hbw hbo
      go_wp2_with fail
      refine (HSX.out ⟨w12, Below.refl _ _⟩).mono ?_
      rintro e w13 ⟨rfl, hp⟩
      have q1 := q0 ⟨w13, hp⟩
      clear q0
      go_wp2_with fail
      go_ret
      exact ⟨rfl, below_then hbo2 hp⟩
end Go.Proofs.YtmiboibadccceaaGreat
