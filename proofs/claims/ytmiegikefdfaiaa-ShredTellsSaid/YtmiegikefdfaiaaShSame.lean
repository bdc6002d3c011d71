/- The walks of hypostyleref.SameLevels, SameCols, SameRecords. -/
import Derived.BigQuiet
import Derived.Test.YtmiegikefdfaiaaSame
import Derived.Test.YtmiegikefdfaiaaShLEq
import Derived.Test.YtmiegikefdfaiaaShRd
import Derived.Test.YtmiegikefdfaiaaWB
namespace Go.Proofs.Ytmiegikefdfaiaa
open Go.RowKit
open Sh (Lv)
set_option linter.unusedVariables false

theorem gtake_succ {α : Type} (z : α) (l : List α) (k : Nat) (h : k < l.length) : l.take (k + 1) = l.take k ++ [l.getD k z] := by
  rw [List.take_succ_eq_append_getElem h]; simp [List.getD, List.getElem?_eq_getElem h]
theorem gtake_eq_succ {α : Type} (z : α) (l m : List α) (k : Nat) (hlm : l.length = m.length) (hk : k < l.length) (h : l.take k = m.take k) (hq : l.getD k z = m.getD k z) : l.take (k + 1) = m.take (k + 1) := by
  rw [gtake_succ z l k hk, gtake_succ z m k (by omega), h, hq]
theorem gne_at {α : Type} (z : α) (l m : List α) (k : Nat) (hq : l.getD k z ≠ m.getD k z) : ¬ l = m := fun e => hq (by rw [e])
theorem gtake_eq_all {α : Type} (l m : List α) (k : Nat) (hlm : l.length = m.length) (hk : l.length ≤ k) (h : l.take k = m.take k) : l = m := by
  rwa [List.take_of_length_le hk, List.take_of_length_le (by omega)] at h

set_option maxHeartbeats 400000 in
theorem lsame_len (a a' : Option Addr) (n m c c' : Nat) (w : World) (h : ((n : Int) != (m : Int)) = true) :
    Calls Try.prog 21 #[.slice a n c, .slice a' m c'] w (BoolPost false w) := by
  go_enter Try.func21, Try.ntmps21
  go_wp2_with fail
  go_ret
  exact ⟨rfl, Below.refl _ _⟩
set_option maxHeartbeats 400000 in
theorem lsame_nil (a a' : Option Addr) (c c' : Nat) (w : World) :
    Calls Try.prog 21 #[.slice a 0 c, .slice a' 0 c'] w (BoolPost true w) := by
  go_enter Try.func21, Try.ntmps21
  go_wp2_with fail
  refine wp_loop_rounds 1 ?_
  rw [rounds_succ]
  go_wp2_with fail
  go_ret
  exact ⟨rfl, Below.refl _ _⟩

set_option maxHeartbeats 1000000 in
set_option maxRecDepth 100000 in
theorem lsame_any (a a' : Option Addr) (c c' : Nat) (l m : List Lv) (w : World) (B : Nat) (h1 : Lvs w B a l) (h2 : Lvs w B a' m) (hl : l.length ≤ 9223372036854775807) :
    Calls Try.prog 21 #[.slice a l.length c, .slice a' m.length c'] w (BoolPost (decide (l = m)) w) := by
  by_cases hlm' : ¬ l.length = m.length
  · have hlm := hlm'
    rw [decide_eq_false (fun e => hlm (by rw [e]))]
    exact lsame_len a a' _ _ c c' w (by simpa using (by omega : ¬ (l.length : Int) = (m.length : Int)))
  have hlm : l.length = m.length := Classical.not_not.1 hlm'
  clear hlm'
  by_cases hn : l = []
  · subst hn
    obtain rfl : m = [] := List.eq_nil_of_length_eq_zero hlm.symm
    exact lsame_nil a a' c c' w
  obtain ⟨b, off, rfl, _, h1⟩ := h1 hn
  obtain ⟨b', off', rfl, _, h2⟩ := h2 (by intro e; rw [e] at hlm; exact hn (List.eq_nil_of_length_eq_zero hlm))
  rw [← hlm]
  have H1 := Lib.hid h1
  have H2 := Lib.hid h2
  have HL := Lib.hid hlm
  clear h1 h2 hlm hn
  go_enter Try.func21, Try.ntmps21
  go_wp2_with fail
  go_loopw [5] (fun i wr => ∃ k d : Nat, k ≤ l.length ∧ i = .int .i64 k ∧ wr = w.drewN d ∧ Hid (l.take k = m.take k)) (fun i _ => l.length - (intOf i).toNat)
  case atStart => exact ⟨0, 0, by omega, rfl, rfl, Lib.hid (by simp)⟩
  case round =>
    obtain ⟨k, d, hk, rfl, rfl, HK⟩ := hrel
    by_cases hlt : k < l.length
    · obtain ⟨c1, c2, c3⟩ := H1.out k hlt
      obtain ⟨d1, d2, d3⟩ := H2.out k (by rw [← HL.out]; exact hlt)
      have HQ := Lib.hid (fun hq => gtake_eq_succ (0, 0, 0) l m k HL.out hlt HK.out hq)
      have HNQ := Lib.hid (fun hq => gne_at ((0, 0, 0) : Lv) l m k hq)
      generalize l.getD k (0, 0, 0) = p at *
      generalize m.getD k (0, 0, 0) = q at *
      have hgd := guards_level .neq
      have hne := fun w => level_neq w p.1 p.2.1 (p.2.2 : Nat) q.1 q.2.1 (q.2.2 : Nat)
      obtain ⟨p1, p2, p3⟩ := p
      obtain ⟨q1, q2, q3⟩ := q
      simp only at c1 c2 c3 d1 d2 d3 hne
      by_cases hq : ((p1, p2, p3) : Lv) = (q1, q2, q3)
      · have HT := Lib.hid (HQ.out hq)
        have hx : decide (¬ (p1 = q1 ∧ p2 = q2 ∧ (p3 : Int) = (q3 : Int))) = false := decide_eq_false (fun e => e (by cases hq; exact ⟨rfl, rfl, rfl⟩))
        rw [hx] at hne
        clear hq HQ HNQ hx
        go_wp2_with fail
        go_quiet (fail)
        clear hne hgd
        go_wp2_with fail
        exact ⟨⟨k + 1, d + nq, by omega, by go_num, rfl, HT⟩, by simp [intOf]; omega⟩
      · have HN := Lib.hid (HNQ.out hq)
        have hx : decide (¬ (p1 = q1 ∧ p2 = q2 ∧ (p3 : Int) = (q3 : Int))) = true := decide_eq_true (fun e => hq (by obtain ⟨e1, e2, e3⟩ := e; rw [e1, e2, show p3 = q3 by omega]))
        rw [hx] at hne
        clear hq HQ HNQ hx
        go_wp2_with fail
        go_quiet (fail)
        clear hne hgd
        go_wp2_with fail
        go_ret
        exact ⟨by rw [decide_eq_false HN.out]; rfl, below_drewN (below_drewN (Below.refl _ _) _) _⟩
    · have HE := Lib.hid (gtake_eq_all l m k HL.out (by omega) HK.out)
      go_wp2_with fail
      go_ret
      exact ⟨by rw [decide_eq_true HE.out]; rfl, below_drewN (Below.refl _ _) _⟩

theorem LRows.at {w : World} {B : Nat} {a : Option Addr} {l : List (List Lv)} (h : LRows w B a l) {i : Nat} (hi : i < l.length) : ∃ b off aa cap, a = some ⟨b, off, none⟩ ∧ b < B ∧ w.cell? ⟨b, off + i, none⟩ = some (.slice aa (l.getD i []).length cap) ∧ Lvs w B aa (l.getD i []) ∧ (l.getD i []).length ≤ cap ∧ cap ≤ maxLen ∧ ∀ x ∈ l.getD i [], lvOk x := by
  obtain ⟨news, h1, h2, h3⟩ := h
  obtain ⟨b, off, e, hlt, hc⟩ := h3 (by intro e; rw [e] at hi; simp at hi)
  obtain ⟨aa, cap, e1, e2, e3, e4, e5⟩ := h2 i hi
  refine ⟨b, off, aa, cap, e, hlt, ?_, e2, e3, e4, e5⟩
  rw [hc i hi, ← e1]
  simp [List.getD, List.getElem?_eq_getElem (show i < news.length by omega)]
theorem NRows.at {w : World} {B : Nat} {a : Option Addr} {l : List (List Nat)} (h : NRows w B a l) {i : Nat} (hi : i < l.length) : ∃ b off ra rcap, a = some ⟨b, off, none⟩ ∧ b < B ∧ w.cell? ⟨b, off + i, none⟩ = some (.slice ra (l.getD i []).length rcap) ∧ Nums w B ra (l.getD i []) ∧ (l.getD i []).length ≤ rcap ∧ rcap ≤ maxLen ∧ ∀ n ∈ l.getD i [], n < 18446744073709551616 := by
  obtain ⟨b, off, e, hlt, hc⟩ := h (by intro e; rw [e] at hi; simp at hi)
  obtain ⟨ra, rcap, h1, h2, h3, h4, h5⟩ := hc i hi
  exact ⟨b, off, ra, rcap, e, hlt, h1, h2, h3, h4, h5⟩

set_option maxHeartbeats 1000000 in
set_option maxRecDepth 100000 in
theorem csame_any (a a' : Option Addr) (c c' : Nat) (l m : List (List Lv)) (w : World) (h1 : LRows w w.heap.size a l) (h2 : LRows w w.heap.size a' m) (hl : l.length ≤ maxLen) :
    Calls Try.prog 17 #[.slice a l.length c, .slice a' m.length c'] w (BoolPost (decide (l = m)) w) := by
  obtain ⟨r, hr⟩ : ∃ r, r = decide (l = m) := ⟨_, rfl⟩
  rw [← hr]
  have HR := Lib.hid hr
  have H1 := Lib.hid h1
  have H2 := Lib.hid h2
  unfold maxLen at hl
  obtain ⟨n, hn⟩ : ∃ n, n = l.length := ⟨_, rfl⟩
  obtain ⟨n', hn'⟩ : ∃ n', n' = m.length := ⟨_, rfl⟩
  rw [← hn] at hl ⊢
  rw [← hn']
  have HN := Lib.hid hn
  have HN' := Lib.hid hn'
  clear h1 h2 hr hn hn'
  by_cases hlm : ((n : Int) != (n' : Int)) = true
  · go_enter Try.func17, Try.ntmps17
    obtain rfl : r = false := HR.out.trans (decide_eq_false (fun e => by rw [HN.out, HN'.out, e] at hlm; simp at hlm))
    go_wp2_with fail
    go_ret
    exact ⟨rfl, Below.refl _ _⟩
  obtain rfl : n = n' := by
    simp at hlm; omega
  clear hlm
  go_enter Try.func17, Try.ntmps17
  go_wp2_with fail
  go_loopw [5] (fun i wr => ∃ k : Nat, k ≤ n ∧ i = .int .i64 k ∧ Below w.heap.size w wr ∧ Hid (l.take k = m.take k)) (fun i _ => n - (intOf i).toNat)
  case atStart => exact ⟨0, by omega, rfl, Below.refl _ _, Lib.hid (by simp)⟩
  case round =>
    obtain ⟨k, hk, rfl, hb, HK⟩ := hrel
    rename World => wr
    by_cases hlt : k < n
    · have hlt1 : k < l.length := by rw [← HN.out]; exact hlt
      have hlt2 : k < m.length := by rw [← HN'.out]; exact hlt
      have hLm : l.length = m.length := HN.out.symm.trans HN'.out
      obtain ⟨b1, o1, a1, c1, rfl, hb1, q1, r1, s1, t1, u1⟩ := (H1.out.next hb).at hlt1
      obtain ⟨b2, o2, a2, c2, rfl, hb2, q2, r2, s2, t2, u2⟩ := (H2.out.next hb).at hlt2
      have HQ := Lib.hid (fun hq => gtake_eq_succ [] l m k hLm hlt1 HK.out hq)
      have HNQ := Lib.hid (fun hq => gne_at ([] : List Lv) l m k hq)
      have hkI : (k : Int) < (n : Int) := by omega
      generalize l.getD k [] = x at *
      generalize m.getD k [] = y at *
      have xm : x.length ≤ 9223372036854775807 := by unfold maxLen at t1; omega
      have HS := Lib.hid (fun (p : WB wr) => lsame_any a1 a2 c1 c2 x y p.w wr.heap.size (r1.below p.below) (r2.below p.below) xm)
      obtain ⟨lx, hlx⟩ : ∃ lx, lx = x.length := ⟨_, rfl⟩
      obtain ⟨ly, hly⟩ : ∃ ly, ly = y.length := ⟨_, rfl⟩
      rw [← hlx] at q1
      rw [← hly] at q2
      rw [← hlx, ← hly] at HS
      obtain ⟨d, hd⟩ : ∃ d, d = decide (x = y) := ⟨_, rfl⟩
      rw [← hd] at HS
      have HD := Lib.hid hd
      have HB := Lib.hid hb
      have f1 : ∀ p : WB wr, p.w.cell? ⟨b1, o1 + k, none⟩ = some (.slice a1 lx c1) := fun p => p.cell hb1 q1
      have f2 : ∀ p : WB wr, p.w.cell? ⟨b2, o2 + k, none⟩ = some (.slice a2 ly c2) := fun p => p.cell hb2 q2
      clear hlt1 hlt2 hLm q1 q2 r1 r2 s1 s2 t1 t2 u1 u2 xm hlx hly hd hb1 hb2 hb
      go_wp2_with fail
      refine wp_region_wb (by kernel_rfl) (by kernel_rfl) ?_
      repeat (quiet_step ((go_at_call 21; exact calls_wb (HS.out _))))
      refine wpQuiet_nil ?_
      rintro _ ⟨p, rfl⟩
      have HP := Lib.hid (below_then HB.out p.below)
      obtain ⟨W1, hW1⟩ : ∃ W1, W1 = p.w := ⟨_, rfl⟩
      rw [← hW1] at HP ⊢
      clear f1 f2 HS hW1
      cases d with
      | true =>
        go_wp2_with fail
        exact ⟨⟨k + 1, by omega, by go_num, HP.out, Lib.hid (HQ.out (of_decide_eq_true HD.out.symm))⟩, by simp [intOf]; omega⟩
      | false =>
        obtain rfl : r = false := HR.out.trans (decide_eq_false (HNQ.out (of_decide_eq_false HD.out.symm)))
        go_wp2_with fail
        go_ret
        exact ⟨rfl, HP.out⟩
    · have HE := Lib.hid (gtake_eq_all l m k (HN.out.symm.trans HN'.out) (by have := HN.out; omega) HK.out)
      have hkI : ¬ (k : Int) < (n : Int) := by omega
      obtain rfl : r = true := HR.out.trans (decide_eq_true HE.out)
      go_wp2_with fail
      go_ret
      exact ⟨rfl, hb⟩

set_option maxHeartbeats 1000000 in
set_option maxRecDepth 100000 in
theorem rsame_any (a a' : Option Addr) (c c' : Nat) (l m : List (List Nat)) (w : World) (h1 : NRows w w.heap.size a l) (h2 : NRows w w.heap.size a' m) (hl : l.length ≤ maxLen) :
    Calls Try.prog 20 #[.slice a l.length c, .slice a' m.length c'] w (BoolPost (decide (l = m)) w) := by
  obtain ⟨r, hr⟩ : ∃ r, r = decide (l = m) := ⟨_, rfl⟩
  rw [← hr]
  have HR := Lib.hid hr
  have H1 := Lib.hid h1
  have H2 := Lib.hid h2
  unfold maxLen at hl
  obtain ⟨n, hn⟩ : ∃ n, n = l.length := ⟨_, rfl⟩
  obtain ⟨n', hn'⟩ : ∃ n', n' = m.length := ⟨_, rfl⟩
  rw [← hn] at hl ⊢
  rw [← hn']
  have HN := Lib.hid hn
  have HN' := Lib.hid hn'
  clear h1 h2 hr hn hn'
  by_cases hlm : ((n : Int) != (n' : Int)) = true
  · go_enter Try.func20, Try.ntmps20
    obtain rfl : r = false := HR.out.trans (decide_eq_false (fun e => by rw [HN.out, HN'.out, e] at hlm; simp at hlm))
    go_wp2_with fail
    go_ret
    exact ⟨rfl, Below.refl _ _⟩
  obtain rfl : n = n' := by
    simp at hlm; omega
  clear hlm
  go_enter Try.func20, Try.ntmps20
  go_wp2_with fail
  go_loopw [5] (fun i wr => ∃ k : Nat, k ≤ n ∧ i = .int .i64 k ∧ Below w.heap.size w wr ∧ Hid (l.take k = m.take k)) (fun i _ => n - (intOf i).toNat)
  case atStart => exact ⟨0, by omega, rfl, Below.refl _ _, Lib.hid (by simp)⟩
  case round =>
    obtain ⟨k, hk, rfl, hb, HK⟩ := hrel
    rename World => wr
    by_cases hlt : k < n
    · have hlt1 : k < l.length := by rw [← HN.out]; exact hlt
      have hlt2 : k < m.length := by rw [← HN'.out]; exact hlt
      have hLm : l.length = m.length := HN.out.symm.trans HN'.out
      obtain ⟨b1, o1, a1, c1, rfl, hb1, q1, r1, s1, t1, u1⟩ := (H1.out.next hb).at hlt1
      obtain ⟨b2, o2, a2, c2, rfl, hb2, q2, r2, s2, t2, u2⟩ := (H2.out.next hb).at hlt2
      have HQ := Lib.hid (fun hq => gtake_eq_succ [] l m k hLm hlt1 HK.out hq)
      have HNQ := Lib.hid (fun hq => gne_at ([] : List Nat) l m k hq)
      have hkI : (k : Int) < (n : Int) := by omega
      generalize l.getD k [] = x at *
      generalize m.getD k [] = y at *
      have xm : x.length ≤ 9223372036854775807 := by unfold maxLen at t1; omega
      have HS := Lib.hid (fun (p : WB wr) => same_any2 a1 a2 c1 c2 x y p.w wr.heap.size (r1.below p.below) (r2.below p.below) xm)
      obtain ⟨lx, hlx⟩ : ∃ lx, lx = x.length := ⟨_, rfl⟩
      obtain ⟨ly, hly⟩ : ∃ ly, ly = y.length := ⟨_, rfl⟩
      rw [← hlx] at q1
      rw [← hly] at q2
      rw [← hlx, ← hly] at HS
      obtain ⟨d, hd⟩ : ∃ d, d = decide (x = y) := ⟨_, rfl⟩
      rw [← hd] at HS
      have HD := Lib.hid hd
      have HB := Lib.hid hb
      have f1 : ∀ p : WB wr, p.w.cell? ⟨b1, o1 + k, none⟩ = some (.slice a1 lx c1) := fun p => p.cell hb1 q1
      have f2 : ∀ p : WB wr, p.w.cell? ⟨b2, o2 + k, none⟩ = some (.slice a2 ly c2) := fun p => p.cell hb2 q2
      clear hlt1 hlt2 hLm q1 q2 r1 r2 s1 s2 t1 t2 u1 u2 xm hlx hly hd hb1 hb2 hb
      go_wp2_with fail
      refine wp_region_wb (by kernel_rfl) (by kernel_rfl) ?_
      repeat (quiet_step ((go_at_call 38; exact calls_wb (HS.out _))))
      refine wpQuiet_nil ?_
      rintro _ ⟨p, rfl⟩
      have HP := Lib.hid (below_then HB.out p.below)
      obtain ⟨W1, hW1⟩ : ∃ W1, W1 = p.w := ⟨_, rfl⟩
      rw [← hW1] at HP ⊢
      clear f1 f2 HS hW1
      cases d with
      | true =>
        go_wp2_with fail
        exact ⟨⟨k + 1, by omega, by go_num, HP.out, Lib.hid (HQ.out (of_decide_eq_true HD.out.symm))⟩, by simp [intOf]; omega⟩
      | false =>
        obtain rfl : r = false := HR.out.trans (decide_eq_false (HNQ.out (of_decide_eq_false HD.out.symm)))
        go_wp2_with fail
        go_ret
        exact ⟨rfl, HP.out⟩
    · have HE := Lib.hid (gtake_eq_all l m k (HN.out.symm.trans HN'.out) (by have := HN.out; omega) HK.out)
      have hkI : ¬ (k : Int) < (n : Int) := by omega
      obtain rfl : r = true := HR.out.trans (decide_eq_true HE.out)
      go_wp2_with fail
      go_ret
      exact ⟨rfl, hb⟩
end Go.Proofs.Ytmiegikefdfaiaa
