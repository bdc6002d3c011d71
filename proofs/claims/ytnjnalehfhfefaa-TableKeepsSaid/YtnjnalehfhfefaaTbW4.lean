/- The walks of table.rows, row, Rows, Row; slices.Clone of columns, of cells. -/
import Derived.Test.YtnjnalehfhfefaaTbW3
import Derived.Test.YtnjnalehfhfefaaTbApp
import Derived.Lib.SliceRun
namespace Go.Proofs.Ytnjnalehfhfefaa
open Go.RowKit
set_option linter.unusedVariables false

set_option maxHeartbeats 1000000 in
set_option maxRecDepth 100000 in
theorem trows_any (ca : Option Addr) (cc : Nat) (da : Option Addr) (dc : Nat) (t : Tb.T) (w : World) (ht : Tbl w w.heap.size ca cc da dc t) :
    Calls Try.prog 39 #[tag ca t.cols.length cc da t.data.length dc] w (IntPost (Tb.rows t : Nat) w) := by
  have hal : Below w.heap.size w (w.alloc (.cells #[.slice ca t.cols.length cc, .slice da t.data.length dc] 25)) := (Below.refl _ _).alloc (Nat.le_refl _) _
  have hT : Two (w.alloc (.cells #[.slice ca t.cols.length cc, .slice da t.data.length dc] 25)) w.heap.size 25 (.slice ca t.cols.length cc) (.slice da t.data.length dc) := two_new _ _ _ _
  have d0 := hT.c0
  have d1 := hT.c1
  have hd := (ht.next hal).dat
  have hdl := ht.dcap
  have hdl1 := hdl.1
  have hdl2 := hdl.2.1
  unfold maxLen at hdl2
  unfold Tb.rows
  by_cases h0 : t.data.length = 0
  · have g1 : ((t.data.length : Int) == 0) = true := by rw [beq_iff_eq]; omega
    have hr : (t.data.getD 0 []).length = 0 := by rw [List.eq_nil_of_length_eq_zero h0]; rfl
    rw [hr]
    clear ht hT hr h0 hd
    go_enter Try.func39, Try.ntmps39
    go_wp2_with fail
    go_ret
    exact ⟨rfl, hal⟩
  · have g1 : ((t.data.length : Int) == 0) = false := by rw [beq_eq_false_iff_ne]; omega
    obtain ⟨db, doff, rfl, hdb, hdd⟩ := hd (fun e => by rw [e] at h0; simp at h0)
    obtain ⟨a0, c0', s0, hrow0⟩ := hdd 0 (by omega)
    have hpos : 0 < t.data.length := by omega
    have hrm0 := hrow0.max
    unfold maxLen at hrm0
    rw [Nat.add_zero] at s0
    generalize (t.data.getD 0 []).length = n0 at *
    clear ht hT hdd hrow0
    go_enter Try.func39, Try.ntmps39
    go_wp2_with fail
    go_ret
    exact ⟨rfl, hal⟩

set_option maxHeartbeats 1000000 in
set_option maxRecDepth 100000 in
theorem trow_any (ca : Option Addr) (cc : Nat) (da : Option Addr) (dc : Nat) (t : Tb.T) (k : Nat) (w : World) (ht : Tbl w w.heap.size ca cc da dc t) (h6 : t.data.length ≤ 1048576) (hk : ∀ i, i < t.data.length → k < (t.data.getD i []).length) :
    Calls Try.prog 40 #[tag ca t.cols.length cc da t.data.length dc, .int .i64 k] w (CellsRowPost (Tb.rowAt t k) w) := by
  have hal : Below w.heap.size w (w.alloc (.cells #[.slice ca t.cols.length cc, .slice da t.data.length dc] 25)) := (Below.refl _ _).alloc (Nat.le_refl _) _
  have hT : Two (w.alloc (.cells #[.slice ca t.cols.length cc, .slice da t.data.length dc] 25)) w.heap.size 25 (.slice ca t.cols.length cc) (.slice da t.data.length dc) := two_new _ _ _ _
  have d0 := hT.c0
  have d1 := hT.c1
  have HD := Lib.hid (ht.next hal).dat
  have HK := Lib.hid hk
  have hst : ∀ j, j < t.data.length → (Tb.rowAt t k).take (j + 1) = (Tb.rowAt t k).take j ++ [(t.data.getD j []).getD k C.null] := fun j hj => by
    rw [ctake_succ _ j (by unfold Tb.rowAt; simpa using hj)]
    unfold Tb.rowAt
    simp [List.getD, List.getElem?_eq_getElem hj]
  have HST := Lib.hid hst
  have HE := Lib.hid (show (Tb.rowAt t k).take t.data.length = Tb.rowAt t k from List.take_of_length_le (by unfold Tb.rowAt; simp))
  have HL := Lib.hid (fun j (hj : j ≤ t.data.length) => show ((Tb.rowAt t k).take j).length = j by rw [List.length_take]; unfold Tb.rowAt; simp; omega)
  generalize Tb.rowAt t k = R at *
  generalize hW : w.alloc (.cells #[.slice ca t.cols.length cc, .slice da t.data.length dc] 25) = W1 at *
  have HW := Lib.hid hW
  clear hW ht hT hst hk
  go_enter Try.func40, Try.ntmps40
  go_wp2_with fail
  rw [HW.out]
  go_wp2_with fail
  go_loopw [5, 7, 11] (fun v _ i wr => ∃ j : Nat, j ≤ t.data.length ∧ i = .int .i64 j ∧ CRow W1.heap.size (R.take j) v wr ∧ Below W1.heap.size W1 wr) (fun _ _ i _ => t.data.length - (intOf i).toNat)
  case atStart => exact ⟨0, by omega, rfl, cnilRow _ _, Below.refl _ _⟩
  case round =>
    obtain ⟨j, hj, rfl, hrow, hbw1⟩ := hrel
    by_cases hlt : j < t.data.length
    · obtain ⟨db, doff, rfl, hdb, hdd⟩ := HD.out (fun e => by rw [e] at hlt; simp at hlt)
      obtain ⟨ai, ci, r0, hri⟩ := hdd j hlt
      have hkj := HK.out j hlt
      have hst := HST.out j hlt
      have HLJ := Lib.hid (HL.out j hj)
      obtain ⟨b, off, rfl, hb, hcell⟩ := hri.cls (fun e => by rw [e] at hkj; simp at hkj)
      obtain ⟨k0, k1, k2⟩ := hcell k hkj
      have hr0 := (hbw1.cell (p := ⟨db, doff + j, none⟩) hdb).trans r0
      have e0 := (hbw1.cell (p := ⟨b, off + k * 3, none⟩) hb).trans k0
      have e1 := (hbw1.cell (p := ⟨b, off + k * 3 + 1, none⟩) hb).trans k1
      have e2 := (hbw1.cell (p := ⟨b, off + k * 3 + 2, none⟩) hb).trans k2
      generalize (t.data.getD j []).getD k C.null = x at *
      obtain ⟨z, n, x⟩ := x
      generalize hn1 : (t.data.getD j []).length = n1 at *
      simp only at e0 e1 e2
      generalize hX : str x = X at *
      have hjI : (j : Int) < (t.data.length : Int) := by omega
      have hkI : (k : Int) < (n1 : Int) := by omega
      have HROW := Lib.hid hrow
      have HSX := Lib.hid hst
      have hlb : ((R.take j).length + 1) * 32 ≤ 140737488355328 := by rw [HLJ.out]; omega
      have hb5 : W1.heap.size ≤ (wr.alloc (.cells #[.int .i64 z, .int .u64 (n : Int), .string X] 30)).heap.size := by have := hbw1.size; simp; omega
      clear hrow hst k0 k1 k2 r0 hcell hdd hri hn1
      go_wp2_with (at_builtin; refine wpList_append_onec rfl (.tmp 15) (.tmp 20) rfl W1.heap.size _ (R.take j) rfl (HROW.out.alloc_ _) wr.heap.size ⟨z, n, x⟩ rfl (World.cell?_alloc_new _ _ _ _) (World.cell?_alloc_new _ _ _ _) (by rw [hX]; exact World.cell?_alloc_new _ _ _ _) hlb hb5 ?_)
      intro v' w5 hown5 hb5w hg5
      have hbw5 : Below W1.heap.size W1 w5 := (hbw1.alloc hbw1.size _).trans hb5w
      clear hb5w hg5
      go_wp2_with fail
      exact ⟨⟨j + 1, by omega, by go_num, by rw [HSX.out]; exact hown5, hbw5⟩, by simp [intOf]; omega⟩
    · obtain rfl : j = t.data.length := by omega
      rw [HE.out] at hrow
      have hrow := hrow.weak hal.size
      go_wp2_with fail
      go_ret
      exact ⟨_, rfl, hrow, below_then hal hbw1⟩

theorem rows_ok {t : Tb.T} (h : Tb.check t = 0) : t.data.length ≤ 6 ∧ ∀ i, i < t.data.length → (t.data.getD i []).length = Tb.rows t := by
  have h := Tb.check_ok h
  exact ⟨by have := h.len; have := h.six; omega, fun i hi => h.rows i (by have := h.len; omega)⟩
def IntEPost (r : Nat × Nat) (w : World) (e : Ending) (w' : World) : Prop := e = .returned (.tuple #[.int .i64 (r.1 : Nat), .int .i64 (r.2 : Nat)]) ∧ Below w.heap.size w w'
set_option maxHeartbeats 1000000 in
set_option maxRecDepth 100000 in
theorem tRows_any (ca : Option Addr) (cc : Nat) (da : Option Addr) (dc : Nat) (t : Tb.T) (w : World) (ht : Tbl w w.heap.size ca cc da dc t) :
    Calls Try.prog 10 #[tag ca t.cols.length cc da t.data.length dc] w (IntEPost (Tb.rowsR t) w) := by
  have hal : Below w.heap.size w (w.alloc (.cells #[.slice ca t.cols.length cc, .slice da t.data.length dc] 25)) := (Below.refl _ _).alloc (Nat.le_refl _) _
  have hT : Two (w.alloc (.cells #[.slice ca t.cols.length cc, .slice da t.data.length dc] 25)) w.heap.size 25 (.slice ca t.cols.length cc) (.slice da t.data.length dc) := two_new _ _ _ _
  have d0 := hT.c0
  have d1 := hT.c1
  have HT := Lib.hid hT
  have H1 := Lib.hid (fun W (hb : Below w.heap.size w W) => tcheck_any ca cc da dc t W (ht.next hb))
  have H2 := Lib.hid (fun W (hb : Below w.heap.size w W) => trows_any ca cc da dc t W (ht.next hb))
  have h9 := Tb.check_lt t
  unfold Tb.rowsR
  generalize hW : w.alloc (.cells #[.slice ca t.cols.length cc, .slice da t.data.length dc] 25) = W1 at *
  have HW := Lib.hid hW
  clear hW ht hT
  generalize Tb.check t = er at *
  generalize Tb.rows t = n at *
  by_cases h0 : er ≠ 0
  · rw [if_pos h0]
    have g1 : ((er : Int) != 0) = true := by rw [bne_iff_ne]; omega
    go_enter Try.func10, Try.ntmps10
    go_wp2_with fail
    rw [HW.out]
    go_wp2_with fail
    refine (H1.out _ hal).mono ?_
    rintro e w1 ⟨rfl, hb1⟩
    go_wp2_with fail
    go_ret2
    exact ⟨rfl, below_then hal hb1⟩
  · rw [if_neg h0]
    obtain rfl : er = 0 := by omega
    go_enter Try.func10, Try.ntmps10
    go_wp2_with fail
    rw [HW.out]
    go_wp2_with fail
    refine (H1.out _ hal).mono ?_
    rintro e w1 ⟨rfl, hb1⟩
    have z0 := (HT.out.next hb1).c0
    have z1 := (HT.out.next hb1).c1
    have hb1 := below_then hal hb1
    go_wp2_with fail
    refine (H2.out _ hb1).mono ?_
    rintro e w2 ⟨rfl, hb2⟩
    go_wp2_with fail
    go_ret2
    exact ⟨rfl, below_then hb1 hb2⟩

set_option maxHeartbeats 1000000 in
set_option maxRecDepth 100000 in
theorem tRow_any (ca : Option Addr) (cc : Nat) (da : Option Addr) (dc : Nat) (t : Tb.T) (i : Int) (w : World) (ht : Tbl w w.heap.size ca cc da dc t) :
    Calls Try.prog 11 #[tag ca t.cols.length cc da t.data.length dc, .int .i64 i] w (CellsPost (Tb.rowR t i) w) := by
  have hal : Below w.heap.size w (w.alloc (.cells #[.slice ca t.cols.length cc, .slice da t.data.length dc] 25)) := (Below.refl _ _).alloc (Nat.le_refl _) _
  have hT : Two (w.alloc (.cells #[.slice ca t.cols.length cc, .slice da t.data.length dc] 25)) w.heap.size 25 (.slice ca t.cols.length cc) (.slice da t.data.length dc) := two_new _ _ _ _
  have d0 := hT.c0
  have d1 := hT.c1
  have HT := Lib.hid hT
  have H1 := Lib.hid (fun W (hb : Below w.heap.size w W) => tcheck_any ca cc da dc t W (ht.next hb))
  have H2 := Lib.hid (fun W (hb : Below w.heap.size w W) => trows_any ca cc da dc t W (ht.next hb))
  have H3 := Lib.hid (fun (h : Tb.check t = 0) (k : Nat) (hk : k < Tb.rows t) W (hb : Below w.heap.size w W) => trow_any ca cc da dc t k W (ht.next hb) (by have := (rows_ok h).1; omega) (fun i hi => by rw [(rows_ok h).2 i hi]; exact hk))
  have h9 := Tb.check_lt t
  unfold Tb.rowR
  generalize hW : w.alloc (.cells #[.slice ca t.cols.length cc, .slice da t.data.length dc] 25) = W1 at *
  have HW := Lib.hid hW
  clear hW ht hT
  by_cases h0 : Tb.check t ≠ 0
  · rw [if_pos h0]
    generalize Tb.check t = er at *
    have g1 : ((er : Int) != 0) = true := by rw [bne_iff_ne]; omega
    go_enter Try.func11, Try.ntmps11
    go_wp2_with fail
    rw [HW.out]
    go_wp2_with fail
    refine (H1.out _ hal).mono ?_
    rintro e w1 ⟨rfl, hb1⟩
    go_wp2_with fail
    go_ret2
    exact CellsPost.none er (below_then hal hb1)
  rw [if_neg h0]
  have h0 : Tb.check t = 0 := by omega
  have H3 := Lib.hid (H3.out h0)
  rw [h0] at H1
  clear h0 h9
  generalize Tb.rows t = n at *
  by_cases hi : i < 0
  · rw [if_pos (Or.inl hi)]
    have g2 : decide (i < 0) = true := decide_eq_true hi
    go_enter Try.func11, Try.ntmps11
    go_wp2_with fail
    rw [HW.out]
    go_wp2_with fail
    refine (H1.out _ hal).mono ?_
    rintro e w1 ⟨rfl, hb1⟩
    go_wp2_with fail
    go_ret2
    exact CellsPost.none 3 (below_then hal hb1)
  have g2 : decide (i < 0) = false := decide_eq_false hi
  obtain ⟨k, rfl⟩ : ∃ k : Nat, i = k := ⟨i.toNat, by omega⟩
  by_cases hn : n ≤ k
  · rw [if_pos (Or.inr (by omega))]
    have g3 : decide ((n : Int) ≤ (k : Int)) = true := decide_eq_true (by omega)
    have g4 : decide (n ≤ k) = true := decide_eq_true (by omega)
    go_enter Try.func11, Try.ntmps11
    go_wp2_with fail
    rw [HW.out]
    go_wp2_with fail
    refine (H1.out _ hal).mono ?_
    rintro e w1 ⟨rfl, hb1⟩
    have z0 := (HT.out.next hb1).c0
    have z1 := (HT.out.next hb1).c1
    have hb1 := below_then hal hb1
    go_wp2_with fail
    refine (H2.out _ hb1).mono ?_
    rintro e w2 ⟨rfl, hb2⟩
    go_wp2_with fail
    go_ret2
    exact CellsPost.none 3 (below_then hb1 hb2)
  · rw [if_neg (by omega)]
    have g3 : decide ((n : Int) ≤ (k : Int)) = false := decide_eq_false (by omega)
    have g4 : decide (n ≤ k) = false := decide_eq_false (by omega)
    have H3 := Lib.hid (H3.out k (by omega))
    rw [Int.toNat_natCast]
    generalize Tb.rowAt t k = R at *
    go_enter Try.func11, Try.ntmps11
    go_wp2_with fail
    rw [HW.out]
    go_wp2_with fail
    refine (H1.out _ hal).mono ?_
    rintro e w1 ⟨rfl, hb1⟩
    have z0 := (HT.out.next hb1).c0
    have z1 := (HT.out.next hb1).c1
    have hT1 := HT.out.next hb1
    have hb1 := below_then hal hb1
    go_wp2_with fail
    refine (H2.out _ hb1).mono ?_
    rintro e w2 ⟨rfl, hb2⟩
    have y0 := (hT1.next hb2).c0
    have y1 := (hT1.next hb2).c1
    have hb2 := below_then hb1 hb2
    go_wp2_with fail
    refine (H3.out _ hb2).mono ?_
    rintro e w3 ⟨v3, rfl, hr3, hb3⟩
    obtain ⟨a3, c3, rfl, hu3, _⟩ := cRow_cls hr3
    go_wp2_with fail
    go_ret2
    exact ⟨a3, c3, rfl, hu3, below_then hb2 hb3⟩

set_option maxHeartbeats 1000000 in
set_option maxRecDepth 100000 in
theorem cloneCols_any (a : Option Addr) (c : Nat) (l : List Tb.Col) (w : World) (hm : l.length ≤ 1048576) (hnil : a = none → c = 0) (hcl : l.length ≤ c) (hu : Gls w w.heap.size a l) :
    Calls Try.prog 82 #[.slice a l.length c] w (fun e w' => ∃ v, e = .returned v ∧ GRow w.heap.size l v w' ∧ Below w.heap.size w w') := by
  have q22 : ∀ (w : World) (a : Option Addr) (n c n' c' : Nat), (binOp .eql 22 (.slice a n c) (.slice none n' c')).run Try.prog w = .ok (.bool a.isNone) w := fun w a n c n' c' => Lib.run_eql_slice_nil w _ _ a n c n' c' Try.underlying22
  match a, hnil, hu with
  | none, hnil, hu =>
    obtain rfl : c = 0 := hnil rfl
    obtain rfl : l = [] := List.eq_nil_of_length_eq_zero (by omega)
    go_enter Try.func82, Try.ntmps82
    go_wp2_with fail
    go_ret
    exact ⟨_, rfl, gnilRow _ _, Below.refl _ _⟩
  | some ad, hnil, hu =>
    have hal : Below w.heap.size w (w.alloc (.cells #[] 27)) := (Below.refl _ _).alloc (Nat.le_refl _) _
    have HU := Lib.hid (hu.next at2_firm hal)
    have HE := Lib.hid (gempty w.heap.size w (Nat.le_refl _))
    have hbase : w.heap.size ≤ (w.alloc (.cells #[] 27)).heap.size := by simp
    have hby : (([] : List Tb.Col).length + l.length) * 24 ≤ 140737488355328 := by simp; omega
    clear hu hcl
    go_enter Try.func82, Try.ntmps82
    go_wp2_with (at_builtin; refine wpList_append_gls rfl (.tmp 5) (.tmp 6) rfl w.heap.size _ [] rfl HE.out (some ad) l.length c l rfl rfl (fun h => by cases h) HU.out hby hbase ?_)
    intro v' w5 hown5 hb5 hfar hsz
    clear hfar hsz
    go_wp2_with fail
    go_ret
    exact ⟨_, rfl, hown5, hal.trans hb5⟩

set_option maxHeartbeats 1000000 in
set_option maxRecDepth 100000 in
theorem cloneCells_any (a : Option Addr) (c : Nat) (l : List C.Cl) (w : World) (hm : l.length ≤ 1048576) (hr : RowIn w w.heap.size a c l) :
    Calls Try.prog 83 #[.slice a l.length c] w (fun e w' => ∃ v, e = .returned v ∧ CRow w.heap.size l v w' ∧ Below w.heap.size w w') := by
  have hnil := hr.nil
  have hu := hr.cls
  have hcl := hr.len
  clear hr
  have q22 : ∀ (w : World) (a : Option Addr) (n c n' c' : Nat), (binOp .eql 34 (.slice a n c) (.slice none n' c')).run Try.prog w = .ok (.bool a.isNone) w := fun w a n c n' c' => Lib.run_eql_slice_nil w _ _ a n c n' c' Try.underlying34
  match a, hnil, hu with
  | none, hnil, hu =>
    obtain rfl : c = 0 := hnil rfl
    obtain rfl : l = [] := List.eq_nil_of_length_eq_zero (by omega)
    go_enter Try.func83, Try.ntmps83
    go_wp2_with fail
    go_ret
    exact ⟨_, rfl, cnilRow _ _, Below.refl _ _⟩
  | some ad, hnil, hu =>
    have hal : Below w.heap.size w (w.alloc (.cells #[] 30)) := (Below.refl _ _).alloc (Nat.le_refl _) _
    have HU := Lib.hid (hu.next hal)
    have HE := Lib.hid (cempty w.heap.size w (Nat.le_refl _))
    have hbase : w.heap.size ≤ (w.alloc (.cells #[] 30)).heap.size := by simp
    have hby : (([] : List C.Cl).length + l.length) * 32 ≤ 140737488355328 := by simp; omega
    clear hu hcl
    go_enter Try.func83, Try.ntmps83
    go_wp2_with (at_builtin; refine wpList_append_cs rfl (.tmp 5) (.tmp 6) rfl w.heap.size _ [] rfl HE.out (some ad) l.length c l rfl rfl (fun h => by cases h) HU.out hby hbase ?_)
    intro v' w5 hown5 hb5 hfar hsz
    clear hfar hsz
    go_wp2_with fail
    go_ret
    exact ⟨_, rfl, hown5, hal.trans hb5⟩
end Go.Proofs.Ytnjnalehfhfefaa
