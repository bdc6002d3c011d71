/- TbS, TbL0, TbBr. -/
import Derived.Test.YtnjnalehfhfefaaK3
import Derived.Test.YtnjnalehfhfefaaTa
/- The walks of hypostyleref.SameTable, RowsOf; column, cNum, cText, cells, conds, texts. -/
namespace Go.Proofs.Ytnjnalehfhfefaa
open Go.RowKit
set_option linter.unusedVariables false

def IntPost0 (n : Int) (w : World) (e : Ending) (w' : World) : Prop := e = .returned (.int .i64 n) ∧ Below w.heap.size w w'
theorem dtake_succ (l : List (List C.Cl)) (k : Nat) (h : k < l.length) : l.take (k + 1) = l.take k ++ [l.getD k []] := by
  rw [List.take_succ_eq_append_getElem h]; simp [List.getD, List.getElem?_eq_getElem h]
def Small (t : Tb.T) : Prop := t.cols.length ≤ 1048576 ∧ ∀ l ∈ t.data, l.length ≤ 1048576
theorem tb_ext {t u : Tb.T} (h1 : t.cols = u.cols) (h2 : t.data = u.data) : t = u := by cases t; cases u; simp_all
set_option maxHeartbeats 2000000 in
set_option maxRecDepth 100000 in
theorem stable_any (ca : Option Addr) (cc : Nat) (da : Option Addr) (dc : Nat) (t : Tb.T) (ca2 : Option Addr) (cc2 : Nat) (da2 : Option Addr) (dc2 : Nat) (u : Tb.T) (w : World) (ht : Tbl w w.heap.size ca cc da dc t) (hu : Tbl w w.heap.size ca2 cc2 da2 dc2 u) (hsm : Small t) :
    Calls Try.prog 24 #[tag ca t.cols.length cc da t.data.length dc, tag ca2 u.cols.length cc2 da2 u.data.length dc2] w (BoolPost (decide (t = u)) w) := by
  have a0 : Below w.heap.size w (w.alloc (.cells #[.slice ca t.cols.length cc, .slice da t.data.length dc] 25)) := (Below.refl _ _).alloc (Nat.le_refl _) _
  have a1 : Below (w.alloc (.cells #[.slice ca t.cols.length cc, .slice da t.data.length dc] 25)).heap.size (w.alloc (.cells #[.slice ca t.cols.length cc, .slice da t.data.length dc] 25)) ((w.alloc (.cells #[.slice ca t.cols.length cc, .slice da t.data.length dc] 25)).alloc (.cells #[.slice ca2 u.cols.length cc2, .slice da2 u.data.length dc2] 25)) := (Below.refl _ _).alloc (Nat.le_refl _) _
  have hT := (two_new w 25 (.slice ca t.cols.length cc) (.slice da t.data.length dc)).next a1
  have hU := two_new (w.alloc (.cells #[.slice ca t.cols.length cc, .slice da t.data.length dc] 25)) 25 (.slice ca2 u.cols.length cc2) (.slice da2 u.data.length dc2)
  rw [show (w.alloc (.cells #[.slice ca t.cols.length cc, .slice da t.data.length dc] 25)).heap.size = w.heap.size + 1 by simp] at hU
  have hal := below_then a0 a1
  have d0 := hT.c0
  have d1 := hT.c1
  have d2 := hU.c0
  have d3 := hU.c1
  have hm1 : t.cols.length < 9223372036854775807 := by have := hsm.1; omega
  have HSM := Lib.hid hsm.2
  have hc1 := ht.dcap
  have hc2 := hu.dcap
  unfold maxLen at hc1 hc2
  have hd1 : t.data.length ≤ 9223372036854775807 := by omega
  have hd2 : u.data.length ≤ 9223372036854775807 := by omega
  have HTT := Lib.hid (ht.next hal)
  have HUU := Lib.hid (hu.next hal)
  have HG := Lib.hid (fun W (hb : Below w.heap.size w W) (hlt : t.cols.length < 9223372036854775807) => gsame_any ca ca2 cc cc2 t.cols u.cols W W.heap.size (ht.next hb).gls (hu.next hb).gls hlt)
  generalize hW : (w.alloc (.cells #[.slice ca t.cols.length cc, .slice da t.data.length dc] 25)).alloc (.cells #[.slice ca2 u.cols.length cc2, .slice da2 u.data.length dc2] 25) = W1 at *
  have HW := Lib.hid hW
  have HT := Lib.hid hT
  have HU := Lib.hid hU
  clear hW hT hU a0 a1 ht hu hc1 hc2 hsm
  · have HG := Lib.hid (HG.out W1 hal hm1)
    by_cases e1 : t.cols ≠ u.cols
    · rw [decide_eq_false (fun e => e1 (by rw [e]))]
      rw [decide_eq_false e1] at HG
      clear e1
      go_enter Try.func24, Try.ntmps24
      go_wp2_with fail
      rw [HW.out]
      go_wp2_with fail
      refine HG.out.mono ?_
      rintro e w1 ⟨rfl, hb1⟩
      go_wp2_with fail
      go_ret
      exact ⟨rfl, below_then hal hb1⟩
    have e1 : t.cols = u.cols := Classical.not_not.1 e1
    rw [decide_eq_true e1] at HG
    have HCE := Lib.hid e1
    clear e1
    by_cases e2 : t.data.length ≠ u.data.length
    · rw [decide_eq_false (fun e => e2 (by rw [e]))]
      have g1 : ((t.data.length : Int) != (u.data.length : Int)) = true := by rw [bne_iff_ne]; omega
      clear e2
      go_enter Try.func24, Try.ntmps24
      go_wp2_with fail
      rw [HW.out]
      go_wp2_with fail
      refine HG.out.mono ?_
      rintro e w1 ⟨rfl, hb1⟩
      have x1 := (HT.out.next hb1).c1
      have x3 := (HU.out.next hb1).c1
      go_wp2_with fail
      go_ret
      exact ⟨rfl, below_then hal hb1⟩
    have g1 : ((t.data.length : Int) != (u.data.length : Int)) = false := by rw [bne_eq_false_iff_eq]; omega
    have HDL := Lib.hid (show t.data.length = u.data.length by omega)
    clear e2
    obtain ⟨R, hR⟩ : ∃ R, R = decide (t = u) := ⟨_, rfl⟩
    rw [← hR]
    have HTRUE := Lib.hid (fun h : t.data = u.data => show R = true by rw [hR]; exact decide_eq_true (tb_ext HCE.out h))
    have HFALSE := Lib.hid (fun h : t.data ≠ u.data => show R = false by rw [hR]; exact decide_eq_false (fun e => h (by rw [e])))
    clear hR
    go_enter Try.func24, Try.ntmps24
    go_wp2_with fail
    rw [HW.out]
    go_wp2_with fail
    refine HG.out.mono ?_
    rintro e w1 ⟨rfl, hb1⟩
    have x1 := (HT.out.next hb1).c1
    have x3 := (HU.out.next hb1).c1
    go_wp2_with fail
    clear x1 x3 d0 d1 d2 d3
    go_loopw [5] (fun i wr => ∃ j : Nat, j ≤ t.data.length ∧ i = .int .i64 j ∧ Below W1.heap.size W1 wr ∧ Hid (t.data.take j = u.data.take j)) (fun i _ => t.data.length - (intOf i).toNat)
    case atStart => exact ⟨0, by omega, rfl, hb1, Lib.hid (by simp)⟩
    case round =>
      obtain ⟨j, hj, rfl, hbw, HK⟩ := hrel
      have hTr := Lib.hid (HT.out.next hbw)
      have hUr := Lib.hid (HU.out.next hbw)
      have z1 := hTr.out.c1
      have z3 := hUr.out.c1
      by_cases hlt : j < t.data.length
      · have hltu : j < u.data.length := by rw [← HDL.out]; exact hlt
        obtain ⟨db, doff, rfl, hdb, hdd⟩ := (HTT.out.next hbw).dat (fun e => by rw [e] at hlt; simp at hlt)
        obtain ⟨eb, eoff, rfl, heb, hee⟩ := (HUU.out.next hbw).dat (fun e => by rw [e] at hltu; simp at hltu)
        obtain ⟨ai, ci, r0, r1⟩ := hdd j hlt
        obtain ⟨bi, di, s0, s1⟩ := hee j hltu
        have hjI : (j : Int) < (t.data.length : Int) := by omega
        have hjU : (j : Int) < (u.data.length : Int) := by omega
        have HSTEP := Lib.hid (fun h : t.data.getD j [] = u.data.getD j [] => show t.data.take (j + 1) = u.data.take (j + 1) by rw [dtake_succ _ j hlt, dtake_succ _ j hltu, HK.out, h])
        have HNE := Lib.hid (fun (h : t.data.getD j [] ≠ u.data.getD j []) => show t.data ≠ u.data from fun e => h (by rw [e]))
        have hrm := r1.max
        have HS := Lib.hid (fun W (hb : Below wr.heap.size wr W) (hl : (t.data.getD j []).length < 9223372036854775807) => csame_any ai bi ci di (t.data.getD j []) (u.data.getD j []) W W.heap.size (r1.next hb).cls (s1.next hb).cls hl)
        have p0 := fun p : WB wr => p.cell hTr.out.lt hTr.out.c1
        have p1 := fun p : WB wr => p.cell hUr.out.lt hUr.out.c1
        have p2 := fun p : WB wr => p.cell hdb r0
        have p3 := fun p : WB wr => p.cell heb s0
        have hlm : (t.data.getD j []).length < 9223372036854775807 := by
          have := HSM.out (t.data.getD j []) (by simp only [List.getD, List.getElem?_eq_getElem hlt, Option.getD_some]; exact List.getElem_mem hlt)
          omega
        generalize t.data.getD j [] = ra at *
        generalize u.data.getD j [] = rb at *
        clear r0 s0 r1 s1 hdd hee z1 z3
        by_cases hq : ra = rb
        · have HT2 := Lib.hid (HSTEP.out hq)
          rw [decide_eq_true hq] at HS
          have HS := Lib.hid (fun W hb => HS.out W hb hlm)
          clear hq HSTEP HNE
          have z1 := hTr.out.c1
          go_wp2_with fail
          refine wp_region_wb (by kernel_rfl) (by kernel_rfl) ?_
          repeat (quiet_step ((go_at_call 23; refine calls_wb (v := .bool true) ?_; exact (HS.out _ (WB.below _)))))
          refine wpQuiet_nil ?_
          rintro _ ⟨p, rfl⟩
          have hp := p.below
          clear p0 p1 p2 p3
          go_wp2_with fail
          exact ⟨⟨j + 1, by omega, by go_num, below_then hbw hp, HT2⟩, by simp [intOf]; omega⟩
        · have HF := Lib.hid (HFALSE.out (HNE.out hq))
          rw [decide_eq_false hq] at HS
          have HS := Lib.hid (fun W hb => HS.out W hb hlm)
          clear hq HSTEP HNE
          have z1 := hTr.out.c1
          go_wp2_with fail
          refine wp_region_wb (by kernel_rfl) (by kernel_rfl) ?_
          repeat (quiet_step ((go_at_call 23; refine calls_wb (v := .bool false) ?_; exact (HS.out _ (WB.below _)))))
          refine wpQuiet_nil ?_
          rintro _ ⟨p, rfl⟩
          have hp := p.below
          clear p0 p1 p2 p3
          go_wp2_with fail
          go_ret
          exact ⟨by rw [HF.out]; rfl, below_then (below_then hal hbw) hp⟩
      · obtain rfl : j = t.data.length := by omega
        have HF := Lib.hid (HTRUE.out (by have h := HK.out; rwa [List.take_length, List.take_of_length_le (by have := HDL.out; omega)] at h))
        go_wp2_with fail
        go_ret
        exact ⟨by rw [HF.out]; rfl, below_then hal hbw⟩

set_option maxHeartbeats 1000000 in
set_option maxRecDepth 100000 in
theorem rowsOf_any (ca : Option Addr) (cc : Nat) (da : Option Addr) (dc : Nat) (t : Tb.T) (w : World) (ht : Tbl w w.heap.size ca cc da dc t) :
    Calls Try.prog 16 #[tag ca t.cols.length cc da t.data.length dc] w (IntPost0 (Tb.rows t : Nat) w) := by
  have hal : Below w.heap.size w (w.alloc (.cells #[.slice ca t.cols.length cc, .slice da t.data.length dc] 25)) := (Below.refl _ _).alloc (Nat.le_refl _) _
  have hT : Two (w.alloc (.cells #[.slice ca t.cols.length cc, .slice da t.data.length dc] 25)) w.heap.size 25 (.slice ca t.cols.length cc) (.slice da t.data.length dc) := two_new _ _ _ _
  have d0 := hT.c0
  have d1 := hT.c1
  have hd := (ht.next hal).dat
  have hdl := ht.dcap
  have hdl1 := hdl.1
  have hdl2 := hdl.2.1
  unfold maxLen at hdl2
  unfold Tb.rows
  by_cases h0 : t.data.length = 0
  · have g1 : ((t.data.length : Int) == 0) = true := by rw [beq_iff_eq]; omega
    have hr : (t.data.getD 0 []).length = 0 := by rw [List.eq_nil_of_length_eq_zero h0]; rfl
    rw [hr]
    clear ht hT hr h0 hd
    go_enter Try.func16, Try.ntmps16
    go_wp2_with fail
    go_ret
    exact ⟨rfl, hal⟩
  · have g1 : ((t.data.length : Int) == 0) = false := by rw [beq_eq_false_iff_ne]; omega
    obtain ⟨db, doff, rfl, hdb, hdd⟩ := hd (fun e => by rw [e] at h0; simp at h0)
    obtain ⟨a0, c0', s0, hrow0⟩ := hdd 0 (by omega)
    have hpos : 0 < t.data.length := by omega
    have hrm0 := hrow0.max
    unfold maxLen at hrm0
    rw [Nat.add_zero] at s0
    generalize (t.data.getD 0 []).length = n0 at *
    clear ht hT hdd hrow0
    go_enter Try.func16, Try.ntmps16
    go_wp2_with fail
    go_ret
    exact ⟨rfl, hal⟩

set_option maxHeartbeats 1000000 in
set_option maxRecDepth 100000 in
theorem column_any (n : ByteArray) (k : Int) (w : World) : Calls Try.prog 59 #[.string n, .int .i64 k] w (fun e w' => e = .returned (.agg #[.string n, .int .i64 k]) ∧ Below w.heap.size w w') := by
  go_enter Try.func59, Try.ntmps59
  go_wp2_with fail
  have hT := two_new w 27 (.string n) (.int .i64 k)
  have z0 := hT.c0
  have z1 := hT.c1
  refine bodyPost_ret (v := .agg #[.string n, .int .i64 k]) (by simp [results, Try.results59, go_sem, z0, z1]) rfl ⟨rfl, (Below.refl _ _).alloc (Nat.le_refl _) _⟩
set_option maxHeartbeats 1000000 in
set_option maxRecDepth 100000 in
theorem tcnum_any (n : Int) (w : World) : Calls Try.prog 57 #[.int .u64 n] w (fun e w' => e = .returned (.agg #[.int .i64 1, .int .u64 n, .string ⟨#[]⟩]) ∧ Below w.heap.size w w') := by
  go_enter Try.func57, Try.ntmps57
  go_wp2_with fail
  have hT := tri_new w (.int .i64 1) (.int .u64 n) (.string ⟨#[]⟩)
  have z0 := hT.c0
  have z1 := hT.c1
  have z2 := hT.c2
  refine bodyPost_ret (v := .agg #[.int .i64 1, .int .u64 n, .string ⟨#[]⟩]) (by simp [results, Try.results57, go_sem, z0, z1, z2]) rfl ⟨rfl, (Below.refl _ _).alloc (Nat.le_refl _) _⟩
set_option maxHeartbeats 1000000 in
set_option maxRecDepth 100000 in
theorem tctext_any (n : ByteArray) (w : World) : Calls Try.prog 89 #[.string n] w (fun e w' => e = .returned (.agg #[.int .i64 2, .int .u64 0, .string n]) ∧ Below w.heap.size w w') := by
  go_enter Try.func89, Try.ntmps89
  go_wp2_with fail
  have hT := tri_new w (.int .i64 2) (.int .u64 0) (.string n)
  have z0 := hT.c0
  have z1 := hT.c1
  have z2 := hT.c2
  refine bodyPost_ret (v := .agg #[.int .i64 2, .int .u64 0, .string n]) (by simp [results, Try.results89, go_sem, z0, z1, z2]) rfl ⟨rfl, (Below.refl _ _).alloc (Nat.le_refl _) _⟩
theorem tcells_any (v : Value) (w : World) : Calls Try.prog 61 #[v] w (fun e w' => e = .returned v ∧ Below w.heap.size w w') := by
  go_enter Try.func61, Try.ntmps61
  go_wp2_with fail
  go_ret
  exact ⟨rfl, Below.refl _ _⟩
theorem tconds_any (v : Value) (w : World) : Calls Try.prog 56 #[v] w (fun e w' => e = .returned v ∧ Below w.heap.size w w') := by
  go_enter Try.func56, Try.ntmps56
  go_wp2_with fail
  go_ret
  exact ⟨rfl, Below.refl _ _⟩
theorem ttexts_any (v : Value) (w : World) : Calls Try.prog 60 #[v] w (fun e w' => e = .returned v ∧ Below w.heap.size w w') := by
  go_enter Try.func60, Try.ntmps60
  go_wp2_with fail
  go_ret
  exact ⟨rfl, Below.refl _ _⟩
end Go.Proofs.Ytnjnalehfhfefaa
/- Two tables that are the same. -/
namespace Go.Proofs.Ytnjnalehfhfefaa
open Go.RowKit
set_option linter.unusedVariables false

theorem Tb.Ok.small {t : Tb.T} (h : Tb.Ok t) : Small t := by
  refine ⟨by have := h.six; omega, fun l hl => ?_⟩
  obtain ⟨i, hi, rfl⟩ := List.mem_iff_getElem.1 hl
  have := h.many i (by have := h.len; omega)
  rw [show t.data.getD i [] = t.data[i] by simp [List.getD, List.getElem?_eq_getElem hi]] at this
  omega
theorem small_nul : Small Tb.nul := ⟨by simp [Tb.nul], by simp [Tb.nul]⟩
theorem stab_true {ca : Option Addr} {cc : Nat} {da : Option Addr} {dc : Nat} {t : Tb.T} {ca2 : Option Addr} {cc2 : Nat} {da2 : Option Addr} {dc2 : Nat} {w : World} (ht : Tbl w w.heap.size ca cc da dc t) (hu : Tbl w w.heap.size ca2 cc2 da2 dc2 t) (hsm : Small t) :
    Calls Try.prog 24 #[tag ca t.cols.length cc da t.data.length dc, tag ca2 t.cols.length cc2 da2 t.data.length dc2] w (BoolPost true w) := by
  have := stable_any ca cc da dc t ca2 cc2 da2 dc2 t w ht hu hsm
  rwa [decide_eq_true rfl] at this
end Go.Proofs.Ytnjnalehfhfefaa
/- The walk of birds. -/
namespace Go.Proofs.Ytnjnalehfhfefaa
open Go.RowKit
set_option linter.unusedVariables false

def nId : List UInt8 := [105, 100]
def nName : List UInt8 := [110, 97, 109, 101]
def birdsT : Tb.T := ⟨[⟨nId, 1⟩, ⟨nName, 2⟩], [[⟨1, 1, []⟩, ⟨1, 2, []⟩, ⟨1, 9, []⟩], [⟨2, 0, [114, 111, 111, 107]⟩, C.null, ⟨2, 0, [119, 114, 101, 110]⟩]]⟩
theorem rowIn_lit (w : World) (b n : Nat) (l : List C.Cl) (h : w.heap[b]? = some (.cells (cv l).toArray 30 (0, 0))) (hn : l.length = n) (hm : n ≤ maxLen) (hok : ∀ x ∈ l, cOk x) : RowIn w w.heap.size (some ⟨b, 0, none⟩) n l := by
  subst hn
  refine ⟨Nat.le_refl _, hm, (fun h => by cases h), hok, ?_⟩
  intro _
  refine ⟨b, 0, rfl, lt_of_block h, fun i hi => ?_⟩
  have hc : ∀ j, w.cell? ⟨b, j, none⟩ = (cv l)[j]? := fun j => by simp only [World.cell?, h]; simp
  rw [Nat.zero_add, hc, hc, hc]
  exact cv_get l i hi

set_option maxHeartbeats 4000000 in
set_option maxRecDepth 100000 in
theorem birds_any (w : World) : Calls Try.prog 58 #[] w (fun e w' => ∃ ca da, e = .returned (tag ca 2 2 da 2 2) ∧ Tbl w' w'.heap.size ca 2 da 2 birdsT ∧ Below w.heap.size w w') := by
  have hR := two_new w 25 (.slice none 0 0) (.slice none 0 0)
  have hal : Below w.heap.size w (w.alloc (.cells #[.slice none 0 0, .slice none 0 0] 25)) := (Below.refl _ _).alloc (Nat.le_refl _) _
  obtain ⟨G, hG⟩ : ∃ G, G = w.heap.size := ⟨_, rfl⟩
  rw [← hG] at hR
  have hGw : w.heap.size ≤ G := by omega
  generalize hW : w.alloc (.cells #[.slice none 0 0, .slice none 0 0] 25) = W1 at *
  have HW := Lib.hid hW
  have HG := Lib.hid hG
  clear hW hG
  have HR := Lib.hid hR
  clear hR
  go_enter Try.func58, Try.ntmps58
  go_wp2_with fail
  rw [HW.out, ← HG.out]
  refine (column_any _ _ _).mono ?_
  rintro e w1 ⟨rfl, hb1⟩
  go_wp2_with fail
  refine (column_any _ _ _).mono ?_
  rintro e w2 ⟨rfl, hb2⟩
  have hb2 := below_then hb1 hb2
  obtain ⟨C1, hC1⟩ : ∃ C1, C1 = w2.alloc (.cells #[.string ⟨#[105, 100]⟩, .int .i64 1, .string ⟨#[110, 97, 109, 101]⟩, .int .i64 2] 27) := ⟨_, rfl⟩
  have kc : C1.heap[w2.heap.size]? = some (.cells #[.string ⟨#[105, 100]⟩, .int .i64 1, .string ⟨#[110, 97, 109, 101]⟩, .int .i64 2] 27 (0, 0)) := by rw [hC1]; exact heap_alloc_new _ _
  have hb3 : Below W1.heap.size W1 C1 := by rw [hC1]; exact hb2.alloc hb2.size _
  go_wp2_with fail
  rw [← hC1]
  clear hC1
  refine (tcnum_any _ _).mono ?_
  rintro e w3 ⟨rfl, hb4⟩
  have kc := (hb4.block _ (lt_of_block kc)).trans kc
  have hb4 := below_then hb3 hb4
  go_wp2_with fail
  refine (tcnum_any _ _).mono ?_
  rintro e w4 ⟨rfl, hb5⟩
  have kc := (hb5.block _ (lt_of_block kc)).trans kc
  have hb5 := below_then hb4 hb5
  go_wp2_with fail
  refine (tcnum_any _ _).mono ?_
  rintro e w5 ⟨rfl, hb6⟩
  have kc := (hb6.block _ (lt_of_block kc)).trans kc
  have hb6 := below_then hb5 hb6
  obtain ⟨C2, hC2⟩ : ∃ C2, C2 = w5.alloc (.cells #[.int .i64 1, .int .u64 1, .string ⟨#[]⟩, .int .i64 1, .int .u64 2, .string ⟨#[]⟩, .int .i64 1, .int .u64 9, .string ⟨#[]⟩] 30) := ⟨_, rfl⟩
  have kd : C2.heap[w5.heap.size]? = some (.cells #[.int .i64 1, .int .u64 1, .string ⟨#[]⟩, .int .i64 1, .int .u64 2, .string ⟨#[]⟩, .int .i64 1, .int .u64 9, .string ⟨#[]⟩] 30 (0, 0)) := by rw [hC2]; exact heap_alloc_new _ _
  have hs2 : Below w5.heap.size w5 C2 := by rw [hC2]; exact (Below.refl _ _).alloc (Nat.le_refl _) _
  have kc := (hs2.block _ (lt_of_block kc)).trans kc
  have hb7 := below_then hb6 hs2
  go_wp2_with fail
  rw [← hC2]
  clear hC2 hs2
  refine (tcells_any _ _).mono ?_
  rintro e w6 ⟨rfl, hb8⟩
  have kc := (hb8.block _ (lt_of_block kc)).trans kc
  have kd := (hb8.block _ (lt_of_block kd)).trans kd
  have hb8 := below_then hb7 hb8
  go_wp2_with fail
  refine (tctext_any _ _).mono ?_
  rintro e w7 ⟨rfl, hb9⟩
  have kc := (hb9.block _ (lt_of_block kc)).trans kc
  have kd := (hb9.block _ (lt_of_block kd)).trans kd
  have hb9 := below_then hb8 hb9
  go_wp2_with fail
  refine (tctext_any _ _).mono ?_
  rintro e w8 ⟨rfl, hb10⟩
  have kc := (hb10.block _ (lt_of_block kc)).trans kc
  have kd := (hb10.block _ (lt_of_block kd)).trans kd
  have hb10 := below_then hb9 hb10
  obtain ⟨C3, hC3⟩ : ∃ C3, C3 = w8.alloc (.cells #[.int .i64 2, .int .u64 0, .string ⟨#[114, 111, 111, 107]⟩, .int .i64 0, .int .u64 0, .string ⟨#[]⟩, .int .i64 2, .int .u64 0, .string ⟨#[119, 114, 101, 110]⟩] 30) := ⟨_, rfl⟩
  have ke : C3.heap[w8.heap.size]? = some (.cells #[.int .i64 2, .int .u64 0, .string ⟨#[114, 111, 111, 107]⟩, .int .i64 0, .int .u64 0, .string ⟨#[]⟩, .int .i64 2, .int .u64 0, .string ⟨#[119, 114, 101, 110]⟩] 30 (0, 0)) := by rw [hC3]; exact heap_alloc_new _ _
  have hs3 : Below w8.heap.size w8 C3 := by rw [hC3]; exact (Below.refl _ _).alloc (Nat.le_refl _) _
  have kc := (hs3.block _ (lt_of_block kc)).trans kc
  have kd := (hs3.block _ (lt_of_block kd)).trans kd
  have hb11 := below_then hb10 hs3
  go_wp2_with fail
  rw [← hC3]
  clear hC3 hs3
  refine (tcells_any _ _).mono ?_
  rintro e w9 ⟨rfl, hb12⟩
  have kc := (hb12.block _ (lt_of_block kc)).trans kc
  have kd := (hb12.block _ (lt_of_block kd)).trans kd
  have ke := (hb12.block _ (lt_of_block ke)).trans ke
  have hb12 := below_then hb11 hb12
  obtain ⟨C4, hC4⟩ : ∃ C4, C4 = w9.alloc (.cells #[.slice (some ⟨w5.heap.size, 0, none⟩) 3 3, .slice (some ⟨w8.heap.size, 0, none⟩) 3 3] 34) := ⟨_, rfl⟩
  have kf : C4.heap[w9.heap.size]? = some (.cells #[.slice (some ⟨w5.heap.size, 0, none⟩) 3 3, .slice (some ⟨w8.heap.size, 0, none⟩) 3 3] 34 (0, 0)) := by rw [hC4]; exact heap_alloc_new _ _
  have hs4 : Below w9.heap.size w9 C4 := by rw [hC4]; exact (Below.refl _ _).alloc (Nat.le_refl _) _
  have kc := (hs4.block _ (lt_of_block kc)).trans kc
  have kd := (hs4.block _ (lt_of_block kd)).trans kd
  have ke := (hs4.block _ (lt_of_block ke)).trans ke
  have hb13 := below_then hb12 hs4
  have hG4 := HR.out.next hb13
  have hw1 : W1.heap.size ≤ w2.heap.size := hb2.size
  have hw2 : W1.heap.size ≤ w5.heap.size := hb6.size
  have hw3 : W1.heap.size ≤ w8.heap.size := hb10.size
  have hw4 : W1.heap.size ≤ w9.heap.size := hb12.size
  have hGl : G < W1.heap.size := HR.out.lt
  obtain ⟨B1, hB1⟩ : ∃ B1, B1 = w2.heap.size := ⟨_, rfl⟩
  obtain ⟨B2, hB2⟩ : ∃ B2, B2 = w5.heap.size := ⟨_, rfl⟩
  obtain ⟨B3, hB3⟩ : ∃ B3, B3 = w8.heap.size := ⟨_, rfl⟩
  obtain ⟨B4, hB4⟩ : ∃ B4, B4 = w9.heap.size := ⟨_, rfl⟩
  have HC4 := Lib.hid hC4
  have q1 := hG4.s0 (.slice (some ⟨B1, 0, none⟩) 2 2)
  have q2 := q1.s1 (.slice (some ⟨B4, 0, none⟩) 2 2)
  have x0 := hG4.c0
  have f0 := hG4.free 0
  have x1 := q1.c1
  have f1 := q1.free 1
  have y0 := q2.c0
  have y1 := q2.c1
  have hbb := below_then hal hb13
  have HB := Lib.hid ((hbb.setCell (p := ⟨G, 0, none⟩) hGw (.slice (some ⟨B1, 0, none⟩) 2 2)).setCell (p := ⟨G, 1, none⟩) hGw (.slice (some ⟨B4, 0, none⟩) 2 2))
  have same : ∀ k, k ≠ G → ((C4.setCell ⟨G, 0, none⟩ (.slice (some ⟨B1, 0, none⟩) 2 2)).setCell ⟨G, 1, none⟩ (.slice (some ⟨B4, 0, none⟩) 2 2)).heap[k]? = C4.heap[k]? := fun k hk => by rw [heap_set _ _ _ _ hk, heap_set _ _ _ _ hk]
  have kc := (same _ (by omega)).trans kc
  have kd := (same _ (by omega)).trans kd
  have ke := (same _ (by omega)).trans ke
  have kf := (same _ (by omega)).trans kf
  rw [← hB1] at kc
  rw [← hB2] at kd
  rw [← hB3] at ke
  rw [← hB4, ← hB2, ← hB3] at kf
  have HT : Hid (Tbl ((C4.setCell ⟨G, 0, none⟩ (.slice (some ⟨B1, 0, none⟩) 2 2)).setCell ⟨G, 1, none⟩ (.slice (some ⟨B4, 0, none⟩) 2 2)) ((C4.setCell ⟨G, 0, none⟩ (.slice (some ⟨B1, 0, none⟩) 2 2)).setCell ⟨G, 1, none⟩ (.slice (some ⟨B4, 0, none⟩) 2 2)).heap.size (some ⟨B1, 0, none⟩) 2 (some ⟨B4, 0, none⟩) 2 birdsT) := by
    generalize (C4.setCell ⟨G, 0, none⟩ (.slice (some ⟨B1, 0, none⟩) 2 2)).setCell ⟨G, 1, none⟩ (.slice (some ⟨B4, 0, none⟩) 2 2) = Wf at *
    have cc : ∀ j, Wf.cell? ⟨B1, j, none⟩ = (#[.string ⟨#[105, 100]⟩, .int .i64 1, .string ⟨#[110, 97, 109, 101]⟩, .int .i64 2] : Array Value)[j]? := fun j => by simp [World.cell?, kc]
    have cf : ∀ j, Wf.cell? ⟨B4, j, none⟩ = (#[.slice (some ⟨B2, 0, none⟩) 3 3, .slice (some ⟨B3, 0, none⟩) 3 3] : Array Value)[j]? := fun j => by simp [World.cell?, kf]
    refine Lib.hid ⟨?_, ?_, ?_, ⟨Nat.le_refl _, by unfold maxLen; omega, fun h => by cases h⟩, ⟨Nat.le_refl _, by unfold maxLen; omega, fun h => by cases h⟩⟩
    · intro _
      refine ⟨B1, 0, rfl, lt_of_block kc, fun i hi => ?_⟩
      have : i = 0 ∨ i = 1 := by simp [birdsT] at hi; omega
      rcases this with rfl | rfl
      · exact ⟨cc 0, cc 1⟩
      · exact ⟨cc 2, cc 3⟩
    · intro _
      refine ⟨B4, 0, rfl, lt_of_block kf, fun i hi => ?_⟩
      have : i = 0 ∨ i = 1 := by simp [birdsT] at hi; omega
      rcases this with rfl | rfl
      · refine ⟨some ⟨B2, 0, none⟩, 3, cf 0, rowIn_lit Wf B2 3 _ kd rfl (by unfold maxLen; omega) ?_⟩
        intro x hx
        simp [birdsT] at hx
        rcases hx with rfl | rfl | rfl <;> (unfold cOk; simp [maxLen])
      · refine ⟨some ⟨B3, 0, none⟩, 3, cf 1, rowIn_lit Wf B3 3 _ ke rfl (by unfold maxLen; omega) ?_⟩
        intro x hx
        simp [birdsT] at hx
        rcases hx with rfl | rfl | rfl <;> (unfold cOk; simp [maxLen, C.null])
    · intro c hc
      simp [birdsT] at hc
      rcases hc with rfl | rfl <;> (unfold gOk; simp [maxLen, nId, nName])
  clear kc kd ke kf same q1 q2 hG4 hbb hs4 HC4
  subst hB1 hB2 hB3 hB4
  subst hC4
  go_wp2_with fail
  refine bodyPost_ret (v := .agg #[.slice (some ⟨w2.heap.size, 0, none⟩) 2 2, .slice (some ⟨w9.heap.size, 0, none⟩) 2 2]) (by simp [results, Try.results58, go_sem, y0, y1]) rfl ?_
  exact ⟨some ⟨w2.heap.size, 0, none⟩, some ⟨w9.heap.size, 0, none⟩, rfl, HT.out, HB.out⟩
end Go.Proofs.Ytnjnalehfhfefaa
