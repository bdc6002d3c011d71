/- The walk of page.Read. -/
import Derived.Test.YtcachhnhncodoaaGreatPgW8
namespace Go.Proofs.YtcachhnhncodoaaGreat
open Go.RowKit
set_option linter.unusedVariables false

theorem results_tmp4 {fn : Func} {t u v x : Tmp} (h : fn.results = #[.tmp t, .tmp u, .tmp v, .tmp x]) (tmps : Array Value) (P : Program) (w : World) :
    (results fn tmps).run P w = .ok (.tuple #[tmps.getD t undef, tmps.getD u undef, tmps.getD v undef, tmps.getD x undef]) w := by
  simp [results, h]

def PReadPost (r : Int × List C.Cl × Nat × Nat) (w : World) (e : Ending) (w' : World) : Prop :=
  ∃ v, e = .returned (.tuple #[.int .i64 r.1, v, .int .i64 (r.2.2.1 : Nat), .int .i64 (r.2.2.2 : Nat)]) ∧ CRow w.heap.size r.2.1 v w' ∧ (r.2.2.2 ≠ 0 → v = .slice none 0 0) ∧ Below w.heap.size w w'
theorem PReadPost.none {w w' : World} (er : Nat) (h : Below w.heap.size w w') : PReadPost (0, [], 0, er) w (.returned (.tuple #[.int .i64 0, .slice Option.none 0 0, .int .i64 0, .int .i64 er])) w' :=
  ⟨.slice Option.none 0 0, rfl, cnilRow _ _, fun _ => rfl, h⟩

set_option maxHeartbeats 1000000 in
set_option maxRecDepth 100000 in
theorem pgread_any (s : List UInt8) (w : World) (hs : s.length ≤ maxLen) :
    Calls Tryz.prog 12 #[.string (str s)] w (PReadPost (Pg.readR s) w) := by
  have hO := sopen_any s w hs
  unfold SOpenPost at hO
  have hR : Pg.readR s = if (Pg.openB s).2.2 ≠ 0 then (0, [], 0, (Pg.openB s).2.2) else Pg.pageC (Pg.openB s).1 (Pg.openB s).2.1 := rfl
  have hbl : (Pg.openB s).1.length ≤ s.length := by
    unfold Pg.openB
    split
    · simp
    · split
      · simp
      · split
        · simp
        · simp only [List.length_take, List.length_drop]; omega
  obtain ⟨b, n, e, he⟩ : ∃ b n e, Pg.openB s = (b, n, e) := ⟨_, _, _, rfl⟩
  rw [he] at hO hR hbl
  simp only at hO hR hbl
  have HO := Lib.hid hO
  clear hO he
  by_cases h0 : e ≠ 0
  · rw [if_pos h0] at hR
    have HRE := Lib.hid hR
    have g1 : ((e : Int) != 0) = true := by rw [bne_iff_ne]; omega
    generalize str b = B at *
    generalize str s = S at *
    clear hR hbl hs
    go_enter Tryz.func12, Tryz.ntmps12
    go_wp2_with fail
    refine (HO.out).mono ?_
    rintro e1 w1 ⟨rfl, hb1⟩
    go_wp2_with fail
    (try simp only [Exit.inBlock, Exit.then])
    refine bodyPost_ret (results_tmp4 rfl _ _ _) rfl ?_
    rw [HRE.out]; exact PReadPost.none e hb1
  obtain rfl : e = 0 := Classical.not_not.1 h0
  rw [if_neg h0] at hR
  cases b with
  | nil =>
    have HRE := Lib.hid (show Pg.readR s = (0, [], 0, 5) from hR)
    have g1 := empty_true (str ([] : List UInt8)) rfl
    generalize str ([] : List UInt8) = B at *
    generalize str s = S at *
    clear hR hbl hs
    go_enter Tryz.func12, Tryz.ntmps12
    go_wp2_with fail
    refine (HO.out).mono ?_
    rintro e1 w1 ⟨rfl, hb1⟩
    go_wp2_with fail
    (try simp only [Exit.inBlock, Exit.then])
    refine bodyPost_ret (results_tmp4 rfl _ _ _) rfl ?_
    rw [HRE.out]; exact PReadPost.none 5 hb1
  | cons c t =>
    rw [List.length_cons] at hbl
    have hR2 : Pg.readR s = if c.toNat ≠ 1 ∧ c.toNat ≠ 2 then (0, [], 0, 7) else if (Pg.cellsR (c.toNat : Int) t).2 ≠ 0 then (0, [], 0, (Pg.cellsR (c.toNat : Int) t).2) else ((c.toNat : Int), (Pg.cellsR (c.toNat : Int) t).1, n, 0) := hR
    clear hR
    have hsz := str_size (c :: t)
    rw [List.length_cons] at hsz
    have hz : 0 < (str (c :: t)).size := by omega
    have hz1 : 1 ≤ (str (c :: t)).size := by omega
    have hz1I : (1 : Int) ≤ ((str (c :: t)).size : Int) := by omega
    have g0 := empty_false (str (c :: t)) (by omega)
    have hc : (str (c :: t))[0].toNat = c.toNat := rfl
    have HX := Lib.hid (str_tail c t)
    have HK := Lib.hid (fun W => ncheck_any (c.toNat : Int) none 0 [] W (by simp [maxLen]) (by simp) (Cls.nil _ _ _))
    unfold CErrPost at HK
    rw [List.length_nil] at HK
    have hk256 : c.toNat < 256 := UInt8.toNat_lt c
    generalize hkk : c.toNat = kk at *
    by_cases h1 : kk ≠ 1 ∧ kk ≠ 2
    · rw [if_pos h1] at hR2
      rw [show C.chk (kk : Int) [] = 7 from if_pos (by omega)] at HK
      have HRE := Lib.hid hR2
      generalize str (c :: t) = B at *
      generalize str s = S at *
      clear hR2 hbl hs h1 hsz hkk
      go_enter Tryz.func12, Tryz.ntmps12
      go_wp2_with fail
      refine (HO.out).mono ?_
      rintro e1 w1 ⟨rfl, hb1⟩
      go_wp2_with fail
      refine (HK.out _).mono ?_
      rintro e2 w2 ⟨rfl, hb2⟩
      go_wp2_with fail
      (try simp only [Exit.inBlock, Exit.then])
      refine bodyPost_ret (results_tmp4 rfl _ _ _) rfl ?_
      rw [HRE.out]; exact PReadPost.none 7 (below_then hb1 hb2)
    rw [if_neg h1] at hR2
    have hk12 : (kk : Int) = 1 ∨ (kk : Int) = 2 := by omega
    rw [show C.chk (kk : Int) [] = 0 by unfold C.chk; rw [if_neg (by omega), if_neg (by simp)]; rfl] at HK
    have hCE := fun W => pcells_any (kk : Int) hk12 t W (by omega)
    unfold JoinPost at hCE
    by_cases h2 : (Pg.cellsR (kk : Int) t).2 ≠ 0
    · rw [if_pos h2] at hR2
      have HCE := Lib.hid hCE
      have HRE := Lib.hid hR2
      generalize (Pg.cellsR (kk : Int) t).2 = er at *
      generalize (Pg.cellsR (kk : Int) t).1 = cs at *
      have g3 : ((er : Int) != 0) = true := by rw [bne_iff_ne]; omega
      rw [← HX.out] at HCE
      generalize str (c :: t) = B at *
      generalize str s = S at *
      clear hR2 hbl hs h1 hCE hk12 hsz hkk
      go_enter Tryz.func12, Tryz.ntmps12
      go_wp2_with fail
      refine (HO.out).mono ?_
      rintro e1 w1 ⟨rfl, hb1⟩
      go_wp2_with fail
      refine (HK.out _).mono ?_
      rintro e2 w2 ⟨rfl, hb2⟩
      go_wp2_with fail
      refine (HCE.out _).mono ?_
      rintro e3 w3 ⟨v3, rfl, hrow3, hb3⟩
      go_wp2_with fail
      (try simp only [Exit.inBlock, Exit.then])
      refine bodyPost_ret (results_tmp4 rfl _ _ _) rfl ?_
      rw [HRE.out]; exact PReadPost.none er (below_then (below_then hb1 hb2) hb3)
    · rw [if_neg h2] at hR2
      rw [Classical.not_not.1 h2] at hCE
      have HCE := Lib.hid hCE
      have HRE := Lib.hid hR2
      generalize (Pg.cellsR (kk : Int) t).1 = cs at *
      rw [← HX.out] at HCE
      generalize str (c :: t) = B at *
      generalize str s = S at *
      clear hR2 hbl hs h1 hCE hk12 h2 hsz hkk
      go_enter Tryz.func12, Tryz.ntmps12
      go_wp2_with fail
      refine (HO.out).mono ?_
      rintro e1 w1 ⟨rfl, hb1⟩
      go_wp2_with fail
      refine (HK.out _).mono ?_
      rintro e2 w2 ⟨rfl, hb2⟩
      go_wp2_with fail
      refine (HCE.out _).mono ?_
      rintro e3 w3 ⟨v3, rfl, hrow3, hb3⟩
      have hb12 := below_then hb1 hb2
      go_wp2_with fail
      (try simp only [Exit.inBlock, Exit.then])
      refine bodyPost_ret (results_tmp4 rfl _ _ _) rfl ?_
      rw [HRE.out]; exact ⟨v3, rfl, hrow3.weak hb12.size, fun h => absurd rfl h, below_then hb12 hb3⟩
theorem pgread_bad {s : List UInt8} {er : Nat} (h : Pg.readR s = (0, [], 0, er)) (he : er ≠ 0) (w : World) (hs : s.length ≤ maxLen) :
    Calls Tryz.prog 12 #[.string (str s)] w fun e w' => e = .returned (.tuple #[.int .i64 0, .slice none 0 0, .int .i64 0, .int .i64 er]) ∧ Below w.heap.size w w' := by
  have h2 := pgread_any s w hs
  rw [h] at h2
  refine h2.mono ?_
  rintro e w1 ⟨v, rfl, _, hv, hb⟩
  exact ⟨by rw [hv he]; rfl, hb⟩
end Go.Proofs.YtcachhnhncodoaaGreat
