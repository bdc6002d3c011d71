/- ShRd, ShSame, ShOk. -/
import Derived.BigQuiet
import Derived.Test.YtjfkoledbegpfaaSame
import Derived.Test.YtjfkoledbegpfaaShAz
import Derived.Test.YtjfkoledbegpfaaShLEq
import Derived.Test.YtjfkoledbegpfaaShLev
import Derived.Test.YtjfkoledbegpfaaWB
/- What Shred and Assemble leave, to be read: columns, records. -/
namespace Go.Proofs.Ytjfkoledbegpfaa
open Go.RowKit
open Sh (Lv)
set_option linter.unusedVariables false

theorem Lvs.nil (w : World) (B : Nat) (a : Option Addr) : Lvs w B a [] := fun h => absurd rfl h
theorem lvals_at : ∀ (l : List Lv) (i j : Nat), i < l.length → j < 3 → (lvals l)[i * 3 + j]? = (lvv (l.getD i (0, 0, 0)))[j]?
  | [], i, j, hi, _ => by simp at hi
  | x :: t, 0, j, _, hj => by
    show (lvv x ++ lvals t)[0 * 3 + j]? = _
    rw [Nat.zero_mul, Nat.zero_add, List.getElem?_append_left (by simpa [lvv] using hj)]
    rfl
  | x :: t, i + 1, j, hi, hj => by
    show (lvv x ++ lvals t)[(i + 1) * 3 + j]? = _
    have e : (lvv x).length = 3 := rfl
    rw [List.getElem?_append_right (by omega), e, show (i + 1) * 3 + j - 3 = i * 3 + j by omega, lvals_at t i j (by simpa using hi) hj]
    simp
theorem lvs_row {w : World} {B : Nat} {v : Value} {l : List Lv} (h : w.ownsRow B 43 3 v l.length (lvals l)) : ∃ a cap, v = .slice a l.length cap ∧ Lvs w w.heap.size a l ∧ l.length ≤ cap ∧ cap ≤ maxLen := by
  rcases h.2 with ⟨rfl, h0⟩ | ⟨g, cap, cur, rfl, e2, e3, e4, e5, -⟩
  · refine ⟨none, 0, by rw [h0], ?_, by omega, Nat.zero_le _⟩
    rw [List.eq_nil_of_length_eq_zero h0]; exact Lvs.nil _ _ _
  · refine ⟨some ⟨g, 0, none⟩, cap, rfl, fun _ => ⟨g, 0, rfl, lt_of_block e3, fun i hi => ?_⟩, e4, e5⟩
    have hc : ∀ j, j < 3 → w.cell? ⟨g, 0 + i * 3 + j, none⟩ = (lvv (l.getD i (0, 0, 0)))[j]? := fun j hj => by
      rw [Nat.zero_add, h.cellAt _ (by omega), lvals_at l i j hi hj]
    exact ⟨hc 0 (by omega), hc 1 (by omega), hc 2 (by omega)⟩
theorem LRows.mono {w : World} {B B' : Nat} {a : Option Addr} {l : List (List Lv)} (h : LRows w B a l) (hB : B ≤ B') : LRows w B' a l := by
  obtain ⟨news, h1, h2, h3⟩ := h
  refine ⟨news, h1, fun i hi => (h2 i hi).mono hB, fun hne => ?_⟩
  obtain ⟨b, off, e, hlt, hc⟩ := h3 hne
  exact ⟨b, off, e, by omega, hc⟩
theorem LRows.next {w w' : World} {a : Option Addr} {l : List (List Lv)} (h : LRows w w.heap.size a l) (hb : Below w.heap.size w w') : LRows w' w'.heap.size a l := (h.below hb).mono hb.size
theorem LRows.nil (w : World) (B : Nat) (a : Option Addr) : LRows w B a [] := ⟨[], rfl, fun i hi => by (simp at hi), fun h => absurd rfl h⟩
theorem NRows.mono {w : World} {B B' : Nat} {a : Option Addr} {l : List (List Nat)} (h : NRows w B a l) (hB : B ≤ B') : NRows w B' a l := by
  intro hl
  obtain ⟨b, off, e, hlt, hc⟩ := h hl
  refine ⟨b, off, e, by omega, fun i hi => ?_⟩
  obtain ⟨ra, rcap, h1, h2, h3⟩ := hc i hi
  exact ⟨ra, rcap, h1, h2.mono hB, h3⟩
theorem NRows.next {w w' : World} {a : Option Addr} {l : List (List Nat)} (h : NRows w w.heap.size a l) (hb : Below w.heap.size w w') : NRows w' w'.heap.size a l := (h.below hb).mono hb.size
theorem NRows.nil (w : World) (B : Nat) (a : Option Addr) : NRows w B a [] := fun h => absurd rfl h
theorem cel_vs {w : World} {C : Nat} {vs : List Value} {t : TypeId} (h : Cel w C vs.toArray t) (i : Nat) (hi : i < vs.length) : w.cell? ⟨C, i, none⟩ = vs[i]? := by
  have := h.c i
  rw [this]; simp
/-- the shredder's columns -/
theorem shd_rows {w : World} {B S C N : Nat} {a : Option Addr} {ls : List Nat} {cap : Nat} {cols : List (List Lv)} {vs : List Value} {sl : Nat} (h : Shd w B S C N a ls cap cols vs sl) (hok : ∀ i, ∀ x ∈ cols.getD i [], lvOk x) :
    LRows w w.heap.size (some ⟨C, 0, none⟩) cols := by
  refine ⟨vs, by rw [h.vl, h.cl], fun i hi => ?_, fun _ => ⟨C, 0, rfl, h.c.lt, fun i hi => ?_⟩⟩
  · obtain ⟨aa, cp, e1, e2, e3, e4⟩ := lvs_row (h.own i (by rw [← h.cl]; exact hi))
    exact ⟨aa, cp, e1, e2, e3, e4, hok i⟩
  · rw [Nat.zero_add]; exact cel_vs h.c i (by rw [h.vl, ← h.cl]; exact hi)
/-- the assembler's records -/
theorem outs_rows {w : World} {G S C : Nat} {ov : Value} {rvs : List Value} {outs : List (List Nat)} (h : Outs w G S C ov rvs outs) (hok : ∀ r ∈ outs, ∀ n ∈ r, n < 18446744073709551616) :
    ∃ a cap, ov = .slice a outs.length cap ∧ NRows w w.heap.size a outs ∧ outs.length ≤ cap ∧ cap ≤ maxLen := by
  have ho := h.o
  rcases ho.2 with ⟨rfl, h0⟩ | ⟨g, cap, cur, rfl, e2, e3, e4, e5, -⟩
  · refine ⟨none, 0, by rw [h0], ?_, by omega, Nat.zero_le _⟩
    rw [List.eq_nil_of_length_eq_zero h0]; exact NRows.nil _ _ _
  · refine ⟨some ⟨g, 0, none⟩, cap, rfl, fun _ => ⟨g, 0, rfl, lt_of_block e3, fun i hi => ?_⟩, e4, e5⟩
    have hi2 : i < rvs.length := by rw [h.rl]; exact hi
    have hc : w.cell? ⟨g, 0 + i, none⟩ = some (rvs.getD i undef) := by
      rw [Nat.zero_add, ho.cellAt i (by omega)]; simp [List.getD, List.getElem?_eq_getElem hi2]
    have hr := h.r i hi
    have hm : outs.getD i [] ∈ outs := by
      rw [show outs.getD i [] = outs[i] by simp [List.getD, List.getElem?_eq_getElem hi]]; exact List.getElem_mem hi
    rcases hr.2 with ⟨hv, h0⟩ | ⟨g', cap', cur', hv, f2, f3, f4, f5, -⟩
    · refine ⟨none, 0, by rw [hc, hv, h0], ?_, by omega, Nat.zero_le _, hok _ hm⟩
      rw [List.eq_nil_of_length_eq_zero h0]; exact Nums.nil _ _ _
    · rw [hv] at hr
      refine ⟨some ⟨g', 0, none⟩, cap', by rw [hc, hv], fun _ => ⟨g', 0, rfl, lt_of_block f3, fun j hj => ?_⟩, f4, f5, hok _ hm⟩
      rw [Nat.zero_add, hr.cellAt j (by omega)]
      generalize outs.getD i [] = q at hj ⊢
      simp [nv, List.getElem?_eq_getElem hj]
end Go.Proofs.Ytjfkoledbegpfaa
/- The walks of hypostyleref.SameLevels, SameCols, SameRecords. -/
namespace Go.Proofs.Ytjfkoledbegpfaa
open Go.RowKit
open Sh (Lv)
set_option linter.unusedVariables false

theorem gtake_succ {α : Type} (z : α) (l : List α) (k : Nat) (h : k < l.length) : l.take (k + 1) = l.take k ++ [l.getD k z] := by
  rw [List.take_succ_eq_append_getElem h]; simp [List.getD, List.getElem?_eq_getElem h]
theorem gtake_eq_succ {α : Type} (z : α) (l m : List α) (k : Nat) (hlm : l.length = m.length) (hk : k < l.length) (h : l.take k = m.take k) (hq : l.getD k z = m.getD k z) : l.take (k + 1) = m.take (k + 1) := by
  rw [gtake_succ z l k hk, gtake_succ z m k (by omega), h, hq]
theorem gne_at {α : Type} (z : α) (l m : List α) (k : Nat) (hq : l.getD k z ≠ m.getD k z) : ¬ l = m := fun e => hq (by rw [e])
theorem gtake_eq_all {α : Type} (l m : List α) (k : Nat) (hlm : l.length = m.length) (hk : l.length ≤ k) (h : l.take k = m.take k) : l = m := by
  rwa [List.take_of_length_le hk, List.take_of_length_le (by omega)] at h

set_option maxHeartbeats 400000 in
theorem lsame_len (a a' : Option Addr) (n m c c' : Nat) (w : World) (h : ((n : Int) != (m : Int)) = true) :
    Calls Try.prog 21 #[.slice a n c, .slice a' m c'] w (BoolPost false w) := by
  go_enter Try.func21, Try.ntmps21
  go_wp2_with fail
  go_ret
  exact ⟨rfl, Below.refl _ _⟩
set_option maxHeartbeats 400000 in
theorem lsame_nil (a a' : Option Addr) (c c' : Nat) (w : World) :
    Calls Try.prog 21 #[.slice a 0 c, .slice a' 0 c'] w (BoolPost true w) := by
  go_enter Try.func21, Try.ntmps21
  go_wp2_with fail
  refine wp_loop_rounds 1 ?_
  rw [rounds_succ]
  go_wp2_with fail
  go_ret
  exact ⟨rfl, Below.refl _ _⟩

set_option maxHeartbeats 1000000 in
set_option maxRecDepth 100000 in
theorem lsame_any (a a' : Option Addr) (c c' : Nat) (l m : List Lv) (w : World) (B : Nat) (h1 : Lvs w B a l) (h2 : Lvs w B a' m) (hl : l.length ≤ 9223372036854775807) :
    Calls Try.prog 21 #[.slice a l.length c, .slice a' m.length c'] w (BoolPost (decide (l = m)) w) := by
  by_cases hlm' : ¬ l.length = m.length
  · have hlm := hlm'
    rw [decide_eq_false (fun e => hlm (by rw [e]))]
    exact lsame_len a a' _ _ c c' w (by simpa using (by omega : ¬ (l.length : Int) = (m.length : Int)))
  have hlm : l.length = m.length := Classical.not_not.1 hlm'
  clear hlm'
  by_cases hn : l = []
  · subst hn
    obtain rfl : m = [] := List.eq_nil_of_length_eq_zero hlm.symm
    exact lsame_nil a a' c c' w
  obtain ⟨b, off, rfl, _, h1⟩ := h1 hn
  obtain ⟨b', off', rfl, _, h2⟩ := h2 (by intro e; rw [e] at hlm; exact hn (List.eq_nil_of_length_eq_zero hlm))
  rw [← hlm]
  have H1 := Lib.hid h1
  have H2 := Lib.hid h2
  have HL := Lib.hid hlm
  clear h1 h2 hlm hn
  go_enter Try.func21, Try.ntmps21
  go_wp2_with fail
  go_loopw [5] (fun i wr => ∃ k d : Nat, k ≤ l.length ∧ i = .int .i64 k ∧ wr = w.drewN d ∧ Hid (l.take k = m.take k)) (fun i _ => l.length - (intOf i).toNat)
  case atStart => exact ⟨0, 0, by omega, rfl, rfl, Lib.hid (by simp)⟩
  case round =>
    obtain ⟨k, d, hk, rfl, rfl, HK⟩ := hrel
    by_cases hlt : k < l.length
    · obtain ⟨c1, c2, c3⟩ := H1.out k hlt
      obtain ⟨d1, d2, d3⟩ := H2.out k (by rw [← HL.out]; exact hlt)
      have HQ := Lib.hid (fun hq => gtake_eq_succ (0, 0, 0) l m k HL.out hlt HK.out hq)
      have HNQ := Lib.hid (fun hq => gne_at ((0, 0, 0) : Lv) l m k hq)
      generalize l.getD k (0, 0, 0) = p at *
      generalize m.getD k (0, 0, 0) = q at *
      have hgd := guards_level .neq
      have hne := fun w => level_neq w p.1 p.2.1 (p.2.2 : Nat) q.1 q.2.1 (q.2.2 : Nat)
      obtain ⟨p1, p2, p3⟩ := p
      obtain ⟨q1, q2, q3⟩ := q
      simp only at c1 c2 c3 d1 d2 d3 hne
      by_cases hq : ((p1, p2, p3) : Lv) = (q1, q2, q3)
      · have HT := Lib.hid (HQ.out hq)
        have hx : decide (¬ (p1 = q1 ∧ p2 = q2 ∧ (p3 : Int) = (q3 : Int))) = false := decide_eq_false (fun e => e (by cases hq; exact ⟨rfl, rfl, rfl⟩))
        rw [hx] at hne
        clear hq HQ HNQ hx
        go_wp2_with fail
        go_quiet (fail)
        clear hne hgd
        go_wp2_with fail
        exact ⟨⟨k + 1, d + nq, by omega, by go_num, rfl, HT⟩, by simp [intOf]; omega⟩
      · have HN := Lib.hid (HNQ.out hq)
        have hx : decide (¬ (p1 = q1 ∧ p2 = q2 ∧ (p3 : Int) = (q3 : Int))) = true := decide_eq_true (fun e => hq (by obtain ⟨e1, e2, e3⟩ := e; rw [e1, e2, show p3 = q3 by omega]))
        rw [hx] at hne
        clear hq HQ HNQ hx
        go_wp2_with fail
        go_quiet (fail)
        clear hne hgd
        go_wp2_with fail
        go_ret
        exact ⟨by rw [decide_eq_false HN.out]; rfl, below_drewN (below_drewN (Below.refl _ _) _) _⟩
    · have HE := Lib.hid (gtake_eq_all l m k HL.out (by omega) HK.out)
      go_wp2_with fail
      go_ret
      exact ⟨by rw [decide_eq_true HE.out]; rfl, below_drewN (Below.refl _ _) _⟩

theorem LRows.at {w : World} {B : Nat} {a : Option Addr} {l : List (List Lv)} (h : LRows w B a l) {i : Nat} (hi : i < l.length) : ∃ b off aa cap, a = some ⟨b, off, none⟩ ∧ b < B ∧ w.cell? ⟨b, off + i, none⟩ = some (.slice aa (l.getD i []).length cap) ∧ Lvs w B aa (l.getD i []) ∧ (l.getD i []).length ≤ cap ∧ cap ≤ maxLen ∧ ∀ x ∈ l.getD i [], lvOk x := by
  obtain ⟨news, h1, h2, h3⟩ := h
  obtain ⟨b, off, e, hlt, hc⟩ := h3 (by intro e; rw [e] at hi; simp at hi)
  obtain ⟨aa, cap, e1, e2, e3, e4, e5⟩ := h2 i hi
  refine ⟨b, off, aa, cap, e, hlt, ?_, e2, e3, e4, e5⟩
  rw [hc i hi, ← e1]
  simp [List.getD, List.getElem?_eq_getElem (show i < news.length by omega)]
theorem NRows.at {w : World} {B : Nat} {a : Option Addr} {l : List (List Nat)} (h : NRows w B a l) {i : Nat} (hi : i < l.length) : ∃ b off ra rcap, a = some ⟨b, off, none⟩ ∧ b < B ∧ w.cell? ⟨b, off + i, none⟩ = some (.slice ra (l.getD i []).length rcap) ∧ Nums w B ra (l.getD i []) ∧ (l.getD i []).length ≤ rcap ∧ rcap ≤ maxLen ∧ ∀ n ∈ l.getD i [], n < 18446744073709551616 := by
  obtain ⟨b, off, e, hlt, hc⟩ := h (by intro e; rw [e] at hi; simp at hi)
  obtain ⟨ra, rcap, h1, h2, h3, h4, h5⟩ := hc i hi
  exact ⟨b, off, ra, rcap, e, hlt, h1, h2, h3, h4, h5⟩

set_option maxHeartbeats 1000000 in
set_option maxRecDepth 100000 in
theorem csame_any (a a' : Option Addr) (c c' : Nat) (l m : List (List Lv)) (w : World) (h1 : LRows w w.heap.size a l) (h2 : LRows w w.heap.size a' m) (hl : l.length ≤ maxLen) :
    Calls Try.prog 17 #[.slice a l.length c, .slice a' m.length c'] w (BoolPost (decide (l = m)) w) := by
  obtain ⟨r, hr⟩ : ∃ r, r = decide (l = m) := ⟨_, rfl⟩
  rw [← hr]
  have HR := Lib.hid hr
  have H1 := Lib.hid h1
  have H2 := Lib.hid h2
  unfold maxLen at hl
  obtain ⟨n, hn⟩ : ∃ n, n = l.length := ⟨_, rfl⟩
  obtain ⟨n', hn'⟩ : ∃ n', n' = m.length := ⟨_, rfl⟩
  rw [← hn] at hl ⊢
  rw [← hn']
  have HN := Lib.hid hn
  have HN' := Lib.hid hn'
  clear h1 h2 hr hn hn'
  by_cases hlm : ((n : Int) != (n' : Int)) = true
  · go_enter Try.func17, Try.ntmps17
    obtain rfl : r = false := HR.out.trans (decide_eq_false (fun e => by rw [HN.out, HN'.out, e] at hlm; simp at hlm))
    go_wp2_with fail
    go_ret
    exact ⟨rfl, Below.refl _ _⟩
  obtain rfl : n = n' := by
    simp at hlm; omega
  clear hlm
  go_enter Try.func17, Try.ntmps17
  go_wp2_with fail
  go_loopw [5] (fun i wr => ∃ k : Nat, k ≤ n ∧ i = .int .i64 k ∧ Below w.heap.size w wr ∧ Hid (l.take k = m.take k)) (fun i _ => n - (intOf i).toNat)
  case atStart => exact ⟨0, by omega, rfl, Below.refl _ _, Lib.hid (by simp)⟩
  case round =>
    obtain ⟨k, hk, rfl, hb, HK⟩ := hrel
    rename World => wr
    by_cases hlt : k < n
    · have hlt1 : k < l.length := by rw [← HN.out]; exact hlt
      have hlt2 : k < m.length := by rw [← HN'.out]; exact hlt
      have hLm : l.length = m.length := HN.out.symm.trans HN'.out
      obtain ⟨b1, o1, a1, c1, rfl, hb1, q1, r1, s1, t1, u1⟩ := (H1.out.next hb).at hlt1
      obtain ⟨b2, o2, a2, c2, rfl, hb2, q2, r2, s2, t2, u2⟩ := (H2.out.next hb).at hlt2
      have HQ := Lib.hid (fun hq => gtake_eq_succ [] l m k hLm hlt1 HK.out hq)
      have HNQ := Lib.hid (fun hq => gne_at ([] : List Lv) l m k hq)
      have hkI : (k : Int) < (n : Int) := by omega
      generalize l.getD k [] = x at *
      generalize m.getD k [] = y at *
      have xm : x.length ≤ 9223372036854775807 := by unfold maxLen at t1; omega
      have HS := Lib.hid (fun (p : WB wr) => lsame_any a1 a2 c1 c2 x y p.w wr.heap.size (r1.below p.below) (r2.below p.below) xm)
      obtain ⟨lx, hlx⟩ : ∃ lx, lx = x.length := ⟨_, rfl⟩
      obtain ⟨ly, hly⟩ : ∃ ly, ly = y.length := ⟨_, rfl⟩
      rw [← hlx] at q1
      rw [← hly] at q2
      rw [← hlx, ← hly] at HS
      obtain ⟨d, hd⟩ : ∃ d, d = decide (x = y) := ⟨_, rfl⟩
      rw [← hd] at HS
      have HD := Lib.hid hd
      have HB := Lib.hid hb
      have f1 : ∀ p : WB wr, p.w.cell? ⟨b1, o1 + k, none⟩ = some (.slice a1 lx c1) := fun p => p.cell hb1 q1
      have f2 : ∀ p : WB wr, p.w.cell? ⟨b2, o2 + k, none⟩ = some (.slice a2 ly c2) := fun p => p.cell hb2 q2
      clear hlt1 hlt2 hLm q1 q2 r1 r2 s1 s2 t1 t2 u1 u2 xm hlx hly hd hb1 hb2 hb
      go_wp2_with fail
      refine wp_region_wb (by kernel_rfl) (by kernel_rfl) ?_
      repeat (quiet_step ((go_at_call 21; exact calls_wb (HS.out _))))
      refine wpQuiet_nil ?_
      rintro _ ⟨p, rfl⟩
      have HP := Lib.hid (below_then HB.out p.below)
      obtain ⟨W1, hW1⟩ : ∃ W1, W1 = p.w := ⟨_, rfl⟩
      rw [← hW1] at HP ⊢
      clear f1 f2 HS hW1
      cases d with
      | true =>
        go_wp2_with fail
        exact ⟨⟨k + 1, by omega, by go_num, HP.out, Lib.hid (HQ.out (of_decide_eq_true HD.out.symm))⟩, by simp [intOf]; omega⟩
      | false =>
        obtain rfl : r = false := HR.out.trans (decide_eq_false (HNQ.out (of_decide_eq_false HD.out.symm)))
        go_wp2_with fail
        go_ret
        exact ⟨rfl, HP.out⟩
    · have HE := Lib.hid (gtake_eq_all l m k (HN.out.symm.trans HN'.out) (by have := HN.out; omega) HK.out)
      have hkI : ¬ (k : Int) < (n : Int) := by omega
      obtain rfl : r = true := HR.out.trans (decide_eq_true HE.out)
      go_wp2_with fail
      go_ret
      exact ⟨rfl, hb⟩

set_option maxHeartbeats 1000000 in
set_option maxRecDepth 100000 in
theorem rsame_any (a a' : Option Addr) (c c' : Nat) (l m : List (List Nat)) (w : World) (h1 : NRows w w.heap.size a l) (h2 : NRows w w.heap.size a' m) (hl : l.length ≤ maxLen) :
    Calls Try.prog 20 #[.slice a l.length c, .slice a' m.length c'] w (BoolPost (decide (l = m)) w) := by
  obtain ⟨r, hr⟩ : ∃ r, r = decide (l = m) := ⟨_, rfl⟩
  rw [← hr]
  have HR := Lib.hid hr
  have H1 := Lib.hid h1
  have H2 := Lib.hid h2
  unfold maxLen at hl
  obtain ⟨n, hn⟩ : ∃ n, n = l.length := ⟨_, rfl⟩
  obtain ⟨n', hn'⟩ : ∃ n', n' = m.length := ⟨_, rfl⟩
  rw [← hn] at hl ⊢
  rw [← hn']
  have HN := Lib.hid hn
  have HN' := Lib.hid hn'
  clear h1 h2 hr hn hn'
  by_cases hlm : ((n : Int) != (n' : Int)) = true
  · go_enter Try.func20, Try.ntmps20
    obtain rfl : r = false := HR.out.trans (decide_eq_false (fun e => by rw [HN.out, HN'.out, e] at hlm; simp at hlm))
    go_wp2_with fail
    go_ret
    exact ⟨rfl, Below.refl _ _⟩
  obtain rfl : n = n' := by
    simp at hlm; omega
  clear hlm
  go_enter Try.func20, Try.ntmps20
  go_wp2_with fail
  go_loopw [5] (fun i wr => ∃ k : Nat, k ≤ n ∧ i = .int .i64 k ∧ Below w.heap.size w wr ∧ Hid (l.take k = m.take k)) (fun i _ => n - (intOf i).toNat)
  case atStart => exact ⟨0, by omega, rfl, Below.refl _ _, Lib.hid (by simp)⟩
  case round =>
    obtain ⟨k, hk, rfl, hb, HK⟩ := hrel
    rename World => wr
    by_cases hlt : k < n
    · have hlt1 : k < l.length := by rw [← HN.out]; exact hlt
      have hlt2 : k < m.length := by rw [← HN'.out]; exact hlt
      have hLm : l.length = m.length := HN.out.symm.trans HN'.out
      obtain ⟨b1, o1, a1, c1, rfl, hb1, q1, r1, s1, t1, u1⟩ := (H1.out.next hb).at hlt1
      obtain ⟨b2, o2, a2, c2, rfl, hb2, q2, r2, s2, t2, u2⟩ := (H2.out.next hb).at hlt2
      have HQ := Lib.hid (fun hq => gtake_eq_succ [] l m k hLm hlt1 HK.out hq)
      have HNQ := Lib.hid (fun hq => gne_at ([] : List Nat) l m k hq)
      have hkI : (k : Int) < (n : Int) := by omega
      generalize l.getD k [] = x at *
      generalize m.getD k [] = y at *
      have xm : x.length ≤ 9223372036854775807 := by unfold maxLen at t1; omega
      have HS := Lib.hid (fun (p : WB wr) => same_any2 a1 a2 c1 c2 x y p.w wr.heap.size (r1.below p.below) (r2.below p.below) xm)
      obtain ⟨lx, hlx⟩ : ∃ lx, lx = x.length := ⟨_, rfl⟩
      obtain ⟨ly, hly⟩ : ∃ ly, ly = y.length := ⟨_, rfl⟩
      rw [← hlx] at q1
      rw [← hly] at q2
      rw [← hlx, ← hly] at HS
      obtain ⟨d, hd⟩ : ∃ d, d = decide (x = y) := ⟨_, rfl⟩
      rw [← hd] at HS
      have HD := Lib.hid hd
      have HB := Lib.hid hb
      have f1 : ∀ p : WB wr, p.w.cell? ⟨b1, o1 + k, none⟩ = some (.slice a1 lx c1) := fun p => p.cell hb1 q1
      have f2 : ∀ p : WB wr, p.w.cell? ⟨b2, o2 + k, none⟩ = some (.slice a2 ly c2) := fun p => p.cell hb2 q2
      clear hlt1 hlt2 hLm q1 q2 r1 r2 s1 s2 t1 t2 u1 u2 xm hlx hly hd hb1 hb2 hb
      go_wp2_with fail
      refine wp_region_wb (by kernel_rfl) (by kernel_rfl) ?_
      repeat (quiet_step ((go_at_call 38; exact calls_wb (HS.out _))))
      refine wpQuiet_nil ?_
      rintro _ ⟨p, rfl⟩
      have HP := Lib.hid (below_then HB.out p.below)
      obtain ⟨W1, hW1⟩ : ∃ W1, W1 = p.w := ⟨_, rfl⟩
      rw [← hW1] at HP ⊢
      clear f1 f2 HS hW1
      cases d with
      | true =>
        go_wp2_with fail
        exact ⟨⟨k + 1, by omega, by go_num, HP.out, Lib.hid (HQ.out (of_decide_eq_true HD.out.symm))⟩, by simp [intOf]; omega⟩
      | false =>
        obtain rfl : r = false := HR.out.trans (decide_eq_false (HNQ.out (of_decide_eq_false HD.out.symm)))
        go_wp2_with fail
        go_ret
        exact ⟨rfl, HP.out⟩
    · have HE := Lib.hid (gtake_eq_all l m k (HN.out.symm.trans HN'.out) (by have := HN.out; omega) HK.out)
      have hkI : ¬ (k : Int) < (n : Int) := by omega
      obtain rfl : r = true := HR.out.trans (decide_eq_true HE.out)
      go_wp2_with fail
      go_ret
      exact ⟨rfl, hb⟩
end Go.Proofs.Ytjfkoledbegpfaa
/- Shred and Assemble, as the laws want them. -/
namespace Go.Proofs.Ytjfkoledbegpfaa
open Go.RowKit
open Sh (Lv)
set_option linter.unusedVariables false

theorem shR_form {l : List Sh.Fd} {rs : List (List Nat)} {cols : List (List Lv)} (h : Sh.shR l rs = .ok cols) : Sh.check l = 0 := by
  unfold Sh.shR at h
  split at h
  · cases h
  · rename_i h0; exact Classical.not_not.1 h0
theorem form_small {l : List Sh.Fd} (h : Sh.check l = 0) : Sh.size (Sh.formK l) ≤ 12 ∧ lv1 (Sh.formK l) ≤ 12 := by
  obtain ⟨k, hk, hf, ho, h12⟩ := Sh.check_form h
  rw [Sh.formK_is hf]
  have e1 : l.length = Sh.size (.cons 0 k .nil) := by rw [← hf, Sh.flat_length]
  have e2 : Sh.size (.cons 0 k .nil) = 1 + Sh.size k + 0 := rfl
  have e3 := Sh.leaves_le (.cons 0 k .nil)
  rw [leaves_cons] at e3
  omega
theorem shR_lvOk {l : List Sh.Fd} {rs : List (List Nat)} {cols : List (List Lv)} (hr : ∀ r ∈ rs, ∀ n ∈ r, n < 18446744073709551616) (h : Sh.shR l rs = .ok cols) : ∀ i, ∀ x ∈ cols.getD i [], lvOk x := by
  intro i x hx
  have h1 := form_small (shR_form h)
  have h2 := Sh.mostK_le (Sh.formK l) i
  obtain ⟨a1, a2, a3, a4, -, -, a7⟩ := Sh.levels l rs cols hr h i x hx
  exact ⟨⟨by omega, by omega⟩, ⟨by omega, by omega⟩, a7⟩
theorem shR_err {l : List Sh.Fd} {rs : List (List Nat)} {n : Nat} (h : Sh.shR l rs = .error n) : n ≠ 0 := by
  unfold Sh.shR at h
  split at h
  · rename_i h0; cases h; exact h0
  · split at h
    · cases h; decide
    · have := recsS_err h; omega
theorem asm_err {l : List Sh.Fd} {cols : List (List Lv)} {n : Nat} (h : Sh.asmbl l cols = .error n) : n ≠ 0 := by
  unfold Sh.asmbl at h
  split at h
  · rename_i h0; cases h; exact h0
  · split at h
    · cases h; decide
    · cases hx : Sh.asR (Sh.formK l) cols with
      | none => rw [hx] at h; cases h; decide
      | some o => rw [hx] at h; cases h
theorem NRows.lt {w : World} {B : Nat} {a : Option Addr} {l : List (List Nat)} (h : NRows w B a l) : ∀ r ∈ l, ∀ n ∈ r, n < 18446744073709551616 := by
  intro r hr
  obtain ⟨i, hi, rfl⟩ := List.getElem_of_mem hr
  obtain ⟨b, off, ra, rcap, -, -, -, -, -, -, h5⟩ := h.at hi
  rwa [show l.getD i [] = l[i] by simp [List.getD, List.getElem?_eq_getElem hi]] at h5
theorem LRows.lt {w : World} {B : Nat} {a : Option Addr} {l : List (List Lv)} (h : LRows w B a l) : ∀ i, (l.getD i []).length ≤ maxLen ∧ ∀ x ∈ l.getD i [], lvOk x := by
  intro i
  by_cases hi : i < l.length
  · obtain ⟨b, off, ra, rcap, -, -, -, -, h3, h4, h5⟩ := h.at hi
    exact ⟨by omega, h5⟩
  · rw [show l.getD i [] = [] by simp [List.getD, List.getElem?_eq_none (show l.length ≤ i by omega)]]
    exact ⟨Nat.zero_le _, fun x hx => by cases hx⟩
/-- columns that were made -/
def ShrOk (w : World) (R : Except Nat (List (List Lv))) (e : Ending) (w' : World) : Prop :=
  Below w.heap.size w w' ∧ match R with
  | .error n => n ≠ 0 ∧ e = .returned (.tuple #[.slice none 0 0, .int .i64 (n : Int)])
  | .ok cols => ∃ C, e = .returned (.tuple #[.slice (some ⟨C, 0, none⟩) cols.length cols.length, .int .i64 0]) ∧ LRows w' w'.heap.size (some ⟨C, 0, none⟩) cols ∧ cols.length ≤ 12
theorem shred_ok (a : Option Addr) (cap : Nat) (l : List Sh.Fd) (ra : Option Addr) (rcap : Nat) (rs : List (List Nat)) (w : World) (hcap : l.length ≤ cap) (hcm : cap ≤ maxLen) (hu : Fds w w.heap.size a l) (hrc : rs.length ≤ rcap) (hrm : rcap ≤ maxLen) (hr : NRows w w.heap.size ra rs) :
    Calls Try.prog 12 #[.slice a l.length cap, .slice ra rs.length rcap] w (ShrOk w (Sh.shR l rs)) := by
  refine (shred_any a cap l ra rcap rs w hcap hcm hu hrc hrm hr).mono ?_
  rintro e w' ⟨hb, hm⟩
  refine ⟨hb, ?_⟩
  cases hR : Sh.shR l rs with
  | error n => rw [hR] at hm; exact ⟨shR_err hR, hm⟩
  | ok cols =>
    rw [hR] at hm
    obtain ⟨B, S, C, N, aa, cp, vs, -, rfl, hs⟩ := hm
    have hcl := hs.cl
    have hnb := hs.nb
    subst hcl
    exact ⟨C, rfl, shd_rows hs (shR_lvOk hr.lt hR), hnb⟩
/-- records that were made -/
def AsmOk (w : World) (R : Except Nat (List (List Nat))) (e : Ending) (w' : World) : Prop :=
  Below w.heap.size w w' ∧ match R with
  | .error n => n ≠ 0 ∧ e = .returned (.tuple #[.slice none 0 0, .int .i64 (n : Int)])
  | .ok outs => ∃ a cap, e = .returned (.tuple #[.slice a outs.length cap, .int .i64 0]) ∧ NRows w' w'.heap.size a outs ∧ outs.length ≤ cap ∧ cap ≤ maxLen
theorem asm_ok (a : Option Addr) (cap : Nat) (l : List Sh.Fd) (ca : Option Addr) (ccap : Nat) (cols : List (List Lv)) (w : World) (hcap : l.length ≤ cap) (hcm : cap ≤ maxLen) (hu : Fds w w.heap.size a l) (hcl : cols.length ≤ maxLen) (hr : LRows w w.heap.size ca cols) :
    Calls Try.prog 18 #[.slice a l.length cap, .slice ca cols.length ccap] w (AsmOk w (Sh.asmbl l cols)) := by
  refine (assemble_any a cap l ca ccap cols w hcap hcm hu hcl hr).mono ?_
  rintro e w' ⟨hb, hm⟩
  refine ⟨hb, ?_⟩
  cases hR : Sh.asmbl l cols with
  | error n => rw [hR] at hm; exact ⟨asm_err hR, hm⟩
  | ok outs =>
    rw [hR] at hm
    obtain ⟨ov, rvs, S, C, rfl, ho⟩ := hm
    obtain ⟨aa, cp, rfl, h1, h2, h3⟩ := outs_rows ho (Sh.fits l cols outs (fun i => by
      have := hr.lt i
      unfold maxLen at this
      exact ⟨by omega, fun x hx => (this.2 x hx).2.2⟩) hR)
    exact ⟨aa, cp, rfl, h1, h2, h3⟩
end Go.Proofs.Ytjfkoledbegpfaa
