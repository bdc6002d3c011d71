/- The walks of the shredder's record, and of all records. -/
import Derived.Test.YtjfkoledbegpfaaShS3
namespace Go.Proofs.Ytjfkoledbegpfaa
open Go.RowKit
open Sh (Lv lsum)
set_option linter.unusedVariables false

namespace Sh
/-- nothing may be left of a record -/
def recEnd : Option Sd → Except Nat (List (List Lv))
  | none => .error 1
  | some ([], cols') => .ok cols'
  | some (_ :: _, _) => .error 1
/-- one record: an error, or the columns -/
def recS (k : F) (rl : List Nat) (cols : List (List Lv)) : Except Nat (List (List Lv)) :=
  if 64 < rl.length then .error 2 else recEnd (al1 sdW 0 k 0 0 0 0 (rl, cols))
def recsS (k : F) : List (List Nat) → List (List Lv) → Except Nat (List (List Lv))
  | [], cols => .ok cols
  | r :: t, cols => match recS k r cols with
    | .error e => .error e
    | .ok cols' => recsS k t cols'
end Sh
def RecPost (w : World) (B S C N : Nat) (R : Except Nat (List (List Lv))) (vs : List Value) (sl : Nat) (e : Ending) (w' : World) : Prop :=
  ∃ vs', Fr S C w w' vs vs' ∧ match R with
    | .error n => e = gaveUp n
    | .ok cols' => e = .returned (.tuple #[]) ∧ ∃ a' cap', Shd w' B S C N a' [] cap' cols' vs' sl

set_option maxHeartbeats 2000000 in
set_option maxRecDepth 100000 in
theorem record_any (w : World) (B S C N : Nat) (a : Option Addr) (ls : List Nat) (cap : Nat) (cols : List (List Lv)) (vs : List Value) (sl : Nat) (h : Shd w B S C N a ls cap cols vs (sl + 768))
    (k : Sh.F) (kv : Value) (hk : KidsOf w (fun i => i < B) k kv 0 0 0) (hne : k ≠ .nil) (hok : Sh.ok k) (hsz : Sh.size k ≤ 500) (hN : lv1 k = N)
    (ra : Option Addr) (rl : List Nat) (rcap : Nat) (hr : Nums w B ra rl) (hlt : ∀ n ∈ rl, n < 18446744073709551616) (hrc : rl.length ≤ rcap ∧ rcap ≤ maxLen) :
    Calls Try.prog 26 #[.pointer (some ⟨S, 0, none⟩), nag 0 0 0 0 k kv, .slice ra rl.length rcap] w (RecPost w B S C N (Sh.recS k rl cols) vs sl) := by
  obtain ⟨R, hR⟩ : ∃ R, Sh.recS k rl cols = R := ⟨_, rfl⟩
  rw [hR]
  have HR := Lib.hid hR
  have HS := Lib.hid h
  have HK := Lib.hid hk
  have HN := Lib.hid hN
  have HNU := Lib.hid hr
  have HLT := Lib.hid hlt
  obtain ⟨b', capk, M, hkv⟩ : ∃ b' capk M, kv = .slice (some ⟨b', 0, none⟩) M capk := by
    rcases hk with ⟨h1, -⟩ | ⟨-, b', capk, h1, -⟩
    · exact absurd h1 hne
    · exact ⟨_, _, _, h1⟩
  subst hkv
  obtain ⟨T, hT⟩ : ∃ T, T = lv1 k := ⟨_, rfl⟩
  have HT := Lib.hid hT
  have hrm := hrc.2
  unfold maxLen at hrm
  simp only [nag, nx, dn, rn, Nat.zero_add, if_true]
  rw [← hT]
  obtain ⟨m, hm⟩ : ∃ m, rl.length = m := ⟨_, rfl⟩
  rw [hm]
  have HM := Lib.hid hm
  have HRC := Lib.hid hrc
  clear h hk hR hT hN hr hlt hm hrc
  by_cases h64 : 64 < m
  · obtain rfl : R = .error 2 := by rw [← HR.out]; unfold Sh.recS; rw [if_pos (by rw [HM.out]; exact h64)]
    have hI : (64 : Int) < (m : Int) := by omega
    go_enter Try.func26, Try.ntmps26
    go_wp2_with fail
    refine And.intro rfl ?_
    exact (⟨vs, (Fr.refl S C w vs).alloc _, rfl⟩ : RecPost w B S C N (.error 2) vs sl (gaveUp 2) _)
  · have hI : ¬ (64 : Int) < (m : Int) := by omega
    have sz := HS.out.s.free 0
    have s0 : w.cell? ⟨S, 0, none⟩ = some (.slice a ls.length cap) := HS.out.s.c 0
    have hSl := HS.out.s.lt
    have hn1 : ¬ S = w.heap.size := by omega
    go_enter Try.func26, Try.ntmps26
    go_wp2_with fail
    have hBw : B ≤ w.heap.size := by have := HS.out.bs; omega
    have D0 : Shd (w.setCell ⟨S, 0, none⟩ (.slice ra m rcap)) B S C N ra rl rcap cols vs sl := by
      have := HS.out.left HNU.out HLT.out HRC.out (sl' := sl) (by have := HS.out.sum; have := HM.out; omega)
      rwa [HM.out] at this
    have D1 := D0.next ((Below.refl _ _).alloc (Nat.le_refl _) (.cells #[.int .i64 0, .int .i64 0, .int .i64 0, .int .i64 0, .int .i64 (T : Nat), .slice (some ⟨b', 0, none⟩) M capk] 50))
    have F1 := (HS.out.frLeft (.slice ra m rcap)).alloc (.cells #[.int .i64 0, .int .i64 0, .int .i64 0, .int .i64 0, .int .i64 (T : Nat), .slice (some ⟨b', 0, none⟩) M capk] 50)
    have K1 : KidsOf ((w.setCell ⟨S, 0, none⟩ (.slice ra m rcap)).alloc (.cells #[.int .i64 0, .int .i64 0, .int .i64 0, .int .i64 0, .int .i64 (T : Nat), .slice (some ⟨b', 0, none⟩) M capk] 50)) (fun i => i < B) k (.slice (some ⟨b', 0, none⟩) M capk) 0 0 0 := HK.out.keep (fun i (hi : i < B) => by
      have hB2 := HS.out.bs
      rw [heap_alloc_old _ _ (by simp [World.setCell]; omega), heap_set_ne _ _ _ _ _ (by omega)])
    generalize ((w.setCell ⟨S, 0, none⟩ (.slice ra m rcap)).alloc (.cells #[.int .i64 0, .int .i64 0, .int .i64 0, .int .i64 0, .int .i64 (T : Nat), .slice (some ⟨b', 0, none⟩) M capk] 50)) = w1 at *
    have HCL := along_any B S C N (Sh.size k + 1) 0 k 0 0 0 0 (.slice (some ⟨b', 0, none⟩) M capk) w1 ra rl rcap cols vs sl (Nat.lt_succ_self _) (by omega) hok (by omega) (by omega) (by omega) (by have := HN.out; omega) D1 K1
    simp only [nag, nx, dn, rn, Nat.zero_add, if_true] at HCL
    rw [← HT.out] at HCL
    refine HCL.mono ?_
    rintro e w5 ⟨vs5, hfr5, hm⟩
    obtain ⟨X, hX⟩ : ∃ X, Sh.al1 Sh.sdW 0 k 0 0 0 0 (rl, cols) = X := ⟨_, rfl⟩
    rw [hX] at hm
    have hRX : R = Sh.recEnd X := by
      rw [← HR.out]; unfold Sh.recS; rw [if_neg (by rw [HM.out]; exact h64), hX]
    cases X with
    | none =>
      obtain rfl := hm
      obtain rfl : R = .error 1 := hRX
      refine And.intro rfl ?_
      exact (⟨vs5, F1.trans hfr5, rfl⟩ : RecPost w B S C N (.error 1) vs sl (gaveUp 1) w5)
    | some st =>
      obtain ⟨l5, c5⟩ := st
      obtain ⟨rfl, a5, cap5, hsd5⟩ := hm
      have hsd5 : Shd w5 B S C N a5 l5 cap5 c5 vs5 sl := hsd5
      have HF := Lib.hid (F1.trans hfr5)
      have HD := Lib.hid hsd5
      have s05 : w5.cell? ⟨S, 0, none⟩ = some (.slice a5 l5.length cap5) := hsd5.s.c 0
      cases l5 with
      | nil =>
        have HRX := Lib.hid hRX
        simp only [List.length_nil] at s05
        clear hRX HCL D0 D1 F1 K1 hsd5 hfr5 hX
        go_wp2_with fail
        obtain rfl : R = .ok c5 := HRX.out
        exact bodyPost_ret (v := .tuple #[]) (by simp [results, Try.results26, go_sem]) rfl ⟨vs5, HF.out, rfl, a5, cap5, HD.out⟩
      | cons z t5 =>
        obtain rfl : R = .error 1 := hRX
        simp only [List.length_cons] at s05
        have hI5 : (0 : Int) < ((t5.length + 1 : Nat) : Int) := by omega
        clear HCL D0 D1 F1 K1 hsd5 hfr5 hX
        go_wp2_with fail
        refine And.intro rfl ?_
        exact (⟨vs5, HF.out, rfl⟩ : RecPost w B S C N (.error 1) vs sl (gaveUp 1) _)

/-- a slice of lists of numbers, read below block B -/
def NRows (w : World) (B : Nat) (a : Option Addr) (l : List (List Nat)) : Prop :=
  l ≠ [] → ∃ b off, a = some ⟨b, off, none⟩ ∧ b < B ∧ ∀ i, i < l.length → ∃ ra rcap, w.cell? ⟨b, off + i, none⟩ = some (.slice ra (l.getD i []).length rcap) ∧ Nums w B ra (l.getD i []) ∧ (l.getD i []).length ≤ rcap ∧ rcap ≤ maxLen ∧ ∀ n ∈ l.getD i [], n < 18446744073709551616
theorem NRows.below {w w' : World} {B : Nat} {a : Option Addr} {l : List (List Nat)} (h : NRows w B a l) (hb : Below B w w') : NRows w' B a l := by
  intro hl
  obtain ⟨b, off, e, hlt, hc⟩ := h hl
  refine ⟨b, off, e, hlt, fun i hi => ?_⟩
  obtain ⟨ra, rcap, h1, h2, h3⟩ := hc i hi
  exact ⟨ra, rcap, (hb.cell (p := ⟨b, off + i, none⟩) hlt).trans h1, h2.below hb, h3⟩
theorem Fr.below {S C B : Nat} {w w' : World} {vs vs' : List Value} (h : Fr S C w w' vs vs') (hB : B ≤ w.heap.size) (ho : ∀ i, Out S C vs i → B ≤ i) : Below B w w' :=
  ⟨h.os, h.tape, h.output, h.size, fun i hi => h.block i (by omega) (fun e => by have := ho i e; omega)⟩
theorem recsS_step {k : Sh.F} {rs : List (List Nat)} {j : Nat} (hj : j < rs.length) (cols : List (List Lv)) : Sh.recsS k (rs.drop j) cols = match Sh.recS k (rs.getD j []) cols with
    | .error e => .error e
    | .ok cols' => Sh.recsS k (rs.drop (j + 1)) cols' := by
  rw [List.drop_eq_getElem_cons hj, Sh.recsS]
  simp [List.getD, List.getElem?_eq_getElem hj]

set_option maxHeartbeats 2000000 in
set_option maxRecDepth 100000 in
theorem recs_any (w : World) (B S C N : Nat) (a : Option Addr) (cap : Nat) (cols : List (List Lv)) (vs : List Value) (rs : List (List Nat)) (h : Shd w B S C N a [] cap cols vs (rs.length * 768))
    (k : Sh.F) (kv : Value) (hk : KidsOf w (fun i => i < B) k kv 0 0 0) (hne : k ≠ .nil) (hok : Sh.ok k) (hsz : Sh.size k ≤ 500) (hN : lv1 k = N)
    (Rb Tb : Nat) (ra : Option Addr) (rcap : Nat) (hRb : Cel w Rb #[.slice ra rs.length rcap] 23) (hTb : Cel w Tb (nx 0 0 0 0 k kv).toArray 50) (hn : ¬ Out S C vs Rb ∧ ¬ Out S C vs Tb) (hr : NRows w B ra rs) (hrc : rs.length ≤ rcap ∧ rcap ≤ maxLen) :
    Calls Try.prog 25 #[.pointer (some ⟨Rb, 0, none⟩), .pointer (some ⟨S, 0, none⟩), .pointer (some ⟨Tb, 0, none⟩)] w (RecPost w B S C N (Sh.recsS k rs cols) vs 0) := by
  obtain ⟨R, hR⟩ : ∃ R, Sh.recsS k rs cols = R := ⟨_, rfl⟩
  rw [hR]
  have HR := Lib.hid hR
  have HS := Lib.hid h
  have HK := Lib.hid hk
  have HN := Lib.hid hN
  have HRB := Lib.hid hRb
  have HTB := Lib.hid hTb
  have HNR := Lib.hid hr
  obtain ⟨b', capk, M, hkv⟩ : ∃ b' capk M, kv = .slice (some ⟨b', 0, none⟩) M capk := by
    rcases hk with ⟨h1, -⟩ | ⟨-, b', capk, h1, -⟩
    · exact absurd h1 hne
    · exact ⟨_, _, _, h1⟩
  subst hkv
  obtain ⟨T, hT⟩ : ∃ T, T = lv1 k := ⟨_, rfl⟩
  have HT := Lib.hid hT
  obtain ⟨m, hm⟩ : ∃ m, m = rs.length := ⟨_, rfl⟩
  have HM := Lib.hid hm
  have f0 : w.cell? ⟨Rb, 0, none⟩ = some (.slice ra m rcap) := by rw [hm]; exact hRb.c 0
  rw [← hm] at hrc
  have hrm := hrc
  unfold maxLen at hrm
  clear h hk hR hT hN hRb hTb hr hm hrc
  go_enter Try.func25, Try.ntmps25
  go_wp2_with fail
  go_loopw [7] (fun i wr => ∃ (j : Nat) (a2 : Option Addr) (cap2 : Nat) (cols2 : List (List Lv)) (vs2 : List Value), j ≤ m ∧ i = .int .i64 j ∧ Fr S C w wr vs vs2 ∧ Shd wr B S C N a2 [] cap2 cols2 vs2 ((m - j) * 768) ∧ Hid (Sh.recsS k (rs.drop j) cols2 = R)) (fun i _ => m - (intOf i).toNat)
  case atStart => exact ⟨0, a, cap, cols, vs, Nat.zero_le _, rfl, Fr.refl S C w vs, by rw [Nat.sub_zero, HM.out]; exact HS.out, Lib.hid (by rw [List.drop_zero]; exact HR.out)⟩
  case round =>
    obtain ⟨j, a2, cap2, cols2, vs2, hjm, rfl, hfr2, hsd2, HQ⟩ := hrel
    rename World => wr
    have CT := HTB.out.fr hn.2 hfr2
    have HF2 := Lib.hid hfr2
    have HD2 := Lib.hid hsd2
    by_cases hj : j = m
    · subst hj
      obtain rfl : R = .ok cols2 := by rw [← HQ.out, List.drop_eq_nil_of_le (by have := HM.out; omega)]; rfl
      have hjI : ¬ (j : Int) < (j : Int) := by omega
      clear hfr2 hsd2 CT
      go_wp2_with fail
      exact bodyPost_ret (v := .tuple #[]) (by simp [results, Try.results25, go_sem]) rfl ⟨vs2, HF2.out, rfl, a2, cap2, HD2.out.slack (Nat.zero_le _)⟩
    · have hjI : (j : Int) < (m : Int) := by omega
      have hjr : j < rs.length := by have := HM.out; omega
      have hBw : B ≤ w.heap.size := by have := HS.out.bs; have := HS.out.s.lt; omega
      obtain ⟨bR, oR, rfl, hbR, hcR⟩ := (HNR.out.below (hfr2.below hBw (fun i e => (HS.out.out e).1))) (List.ne_nil_of_length_pos (by omega))
      obtain ⟨qa, qc, q0, qn, ql, qm, qlt⟩ := hcR j hjr
      obtain ⟨r, hrr⟩ : ∃ r, rs.getD j [] = r := ⟨_, rfl⟩
      rw [hrr] at q0 qn ql qlt
      obtain ⟨lr, hlr⟩ : ∃ lr, lr = r.length := ⟨_, rfl⟩
      rw [← hlr] at q0
      have g0 : wr.cell? ⟨Tb, 0, none⟩ = some (.int .i64 0) := CT.c 0
      have g1 : wr.cell? ⟨Tb, 1, none⟩ = some (.int .i64 0) := CT.c 1
      have g2 : wr.cell? ⟨Tb, 2, none⟩ = some (.int .i64 0) := CT.c 2
      have g3 : wr.cell? ⟨Tb, 3, none⟩ = some (.int .i64 0) := CT.c 3
      have g4 : wr.cell? ⟨Tb, 4, none⟩ = some (.int .i64 (T : Nat)) := by have := CT.c 4; simp only [nx, Nat.zero_add] at this; rw [← HT.out] at this; exact this
      have g5 : wr.cell? ⟨Tb, 5, none⟩ = some (.slice (some ⟨b', 0, none⟩) M capk) := CT.c 5
      have KW := HK.out.keep (fun i (hi : i < B) => hfr2.block i (Nat.lt_of_lt_of_le hi hBw) (fun e => by have := (HS.out.out e).1; omega))
      have HCL := record_any wr B S C N a2 [] cap2 cols2 vs2 ((m - (j + 1)) * 768) (by rw [show (m - (j + 1)) * 768 + 768 = (m - j) * 768 by omega]; exact HD2.out) k (.slice (some ⟨b', 0, none⟩) M capk) KW hne hok hsz HN.out qa r qc qn qlt ⟨ql, qm⟩
      simp only [nag, nx, dn, rn, Nat.zero_add, if_true] at HCL
      rw [← HT.out, ← hlr] at HCL
      have HCC := Lib.hid HCL
      have HST := Lib.hid (show (match Sh.recS k r cols2 with | .error e => .error e | .ok cols' => Sh.recsS k (rs.drop (j + 1)) cols') = R by rw [← HQ.out, recsS_step hjr, hrr])
      clear hfr2 hsd2 CT hcR qn ql qm qlt hrr hlr KW HCL
      go_wp2_with fail
      refine HCC.out.mono ?_
      rintro e w5 ⟨vs5, hfr5, hm⟩
      obtain ⟨X, hX⟩ : ∃ X, Sh.recS k r cols2 = X := ⟨_, rfl⟩
      have HS2 := HST.out
      rw [hX] at hm HS2
      cases X with
      | error n =>
        obtain rfl := hm
        obtain rfl : R = .error n := HS2.symm
        refine And.intro rfl ?_
        exact (⟨vs5, HF2.out.trans hfr5, rfl⟩ : RecPost w B S C N (.error n) vs 0 (gaveUp n) w5)
      | ok c5 =>
        obtain ⟨rfl, a5, cap5, hsd5⟩ := hm
        have HF5 := Lib.hid (HF2.out.trans hfr5)
        have HD5 := Lib.hid hsd5
        have HQ5 := Lib.hid (show Sh.recsS k (rs.drop (j + 1)) c5 = R from HS2)
        clear hfr5 hsd5 HS2 hX HCC
        go_wp2_with fail
        refine ⟨⟨j + 1, a5, cap5, c5, vs5, by omega, by go_num, HF5.out, HD5.out, HQ5.out⟩, ?_⟩
        simp [intOf]; omega
end Go.Proofs.Ytjfkoledbegpfaa
