/- The walk of nulls.Join. -/
import Derived.Test.YtocgimimmajjhaaCW3
namespace Go.Proofs.Ytocgimimmajjhaa
open Go.RowKit
set_option linter.unusedVariables false

theorem Cls.drop {w : World} {B' b off : Nat} {l : List C.Cl} (h : Cls w B' (some ⟨b, off, none⟩) l) (k : Nat) : Cls w B' (some ⟨b, off + k * 3, none⟩) (l.drop k) := by
  intro hl
  have hk : k < l.length := by
    rcases Nat.lt_or_ge k l.length with h | h
    · exact h
    · exact absurd (List.drop_eq_nil_of_le h) hl
  obtain ⟨b', off', e, hb, hc⟩ := h (by intro e; subst e; simp at hk)
  injection e with e
  injection e with e1 e2
  subst e1 e2
  refine ⟨b, off + k * 3, rfl, hb, fun i hi => ?_⟩
  rw [List.length_drop] at hi
  have := hc (k + i) (by omega)
  rw [show off + (k + i) * 3 = off + k * 3 + i * 3 by omega] at this
  have e : (l.drop k).getD i C.null = l.getD (k + i) C.null := by simp [List.getD, List.getElem?_drop]
  rw [e]; exact this

theorem Cls.cutIf {w : World} {B' b off c : Nat} {l : List C.Cl} (h : Cls w B' (some ⟨b, off, none⟩) l) (hl : l.length ≤ c) : Cls w B' (if c = 1 then some ⟨b, off, none⟩ else some ⟨b, off + 3, none⟩) (l.drop 1) := by
  by_cases hk : c = 1
  · rw [if_pos hk, List.drop_eq_nil_of_le (by omega)]; exact Cls.nil _ _ _
  · rw [if_neg hk]; exact h.drop 1

/-- three stores of a row's cell -/
theorem CRow.put {B : Nat} {xs : List C.Cl} {g n c : Nat} {w : World} (h : CRow B xs (.slice (some ⟨g, 0, none⟩) n c) w) (i : Nat) (x : C.Cl) (hi : i < xs.length) :
    CRow B (xs.set i x) (.slice (some ⟨g, 0, none⟩) n c) (((w.setCell ⟨g, i * 3, none⟩ (.int .i64 x.kind)).setCell ⟨g, i * 3 + 1, none⟩ (.int .u64 (x.num : Int))).setCell ⟨g, i * 3 + 2, none⟩ (.string (str x.txt))) := by
  have hn : n = xs.length := by
    obtain ⟨a', c', e, _⟩ := cRow_cls h
    injection e
  subst hn
  unfold CRow at *
  have := (((h.stored (i * 3) (.int .i64 x.kind)).1.stored (i * 3 + 1) (.int .u64 (x.num : Int))).1.stored (i * 3 + 2) (.string (str x.txt))).1
  rw [cv_set xs i x hi] at this
  rw [List.length_set]; exact this
theorem crow_len {B : Nat} {xs : List C.Cl} {a : Option Addr} {n c : Nat} {w : World} (h : CRow B xs (.slice a n c) w) : n = xs.length := by
  obtain ⟨a', c', e, _⟩ := cRow_cls h
  injection e
/-- what the three stores need -/
theorem CRow.stores {B : Nat} {xs : List C.Cl} {g n c : Nat} {w : World} (h : CRow B xs (.slice (some ⟨g, 0, none⟩) n c) w) (i : Nat) (u v : Value) (hi : i < xs.length) :
    (∃ a, w.cell? ⟨g, i * 3, none⟩ = some a) ∧ (∃ a, (w.setCell ⟨g, i * 3, none⟩ u).cell? ⟨g, i * 3 + 1, none⟩ = some a) ∧ (∃ a, ((w.setCell ⟨g, i * 3, none⟩ u).setCell ⟨g, i * 3 + 1, none⟩ v).cell? ⟨g, i * 3 + 2, none⟩ = some a) ∧
    w.frozen? ⟨g, i * 3, none⟩ = false ∧ (w.setCell ⟨g, i * 3, none⟩ u).frozen? ⟨g, i * 3 + 1, none⟩ = false ∧ ((w.setCell ⟨g, i * 3, none⟩ u).setCell ⟨g, i * 3 + 1, none⟩ v).frozen? ⟨g, i * 3 + 2, none⟩ = false := by
  have hn := crow_len h
  subst hn
  unfold CRow at h
  have h2 := (h.stored (i * 3) u).1
  have h3 := (h2.stored (i * 3 + 1) v).1
  have hl := cv_length xs
  refine ⟨?_, ?_, ?_, h.frozenAt _, h2.frozenAt _, h3.frozenAt _⟩
  · rw [h.cellAt (i * 3) (by omega)]; exact ⟨_, List.getElem?_eq_getElem (by omega)⟩
  · rw [h2.cellAt (i * 3 + 1) (by omega)]; exact ⟨_, List.getElem?_eq_getElem (by simp; omega)⟩
  · rw [h3.cellAt (i * 3 + 2) (by omega)]; exact ⟨_, List.getElem?_eq_getElem (by simp; omega)⟩
theorem cv_rep (n : Nat) : cv (List.replicate n C.null) = (madeCells (Value.agg #[.int .i64 0, .int .u64 0, .string ByteArray.empty]).cells (n * 3)).toList := by
  apply List.ext_getElem?
  intro i
  by_cases hi : i < n * 3
  · have h3 : i % 3 = 0 ∨ i % 3 = 1 ∨ i % 3 = 2 := by omega
    have hk : i / 3 < n := by omega
    obtain ⟨g0, g1, g2⟩ := cv_get (List.replicate n C.null) (i / 3) (by simpa using hk)
    have e : (List.replicate n C.null).getD (i / 3) C.null = C.null := by simp [List.getD, hk]
    rw [e] at g0 g1 g2
    have hz : (Value.agg #[.int .i64 0, .int .u64 0, .string ByteArray.empty]).cells = #[.int .i64 0, .int .u64 0, .string ByteArray.empty] := by simp [Value.cells]
    rw [hz]
    rcases h3 with h | h | h
    · rw [show i / 3 * 3 = i by omega] at g0
      rw [g0]; simp [madeCells, hi, h]; rfl
    · rw [show i / 3 * 3 + 1 = i by omega] at g1
      rw [g1]; simp [madeCells, hi, h]; rfl
    · rw [show i / 3 * 3 + 2 = i by omega] at g2
      rw [g2]; simp [madeCells, hi, h]; rfl
  · rw [List.getElem?_eq_none (by rw [cv_length]; simp; omega), List.getElem?_eq_none (by simp [madeCells]; omega)]
theorem made_crow {w' : World} {g n B' : Nat} (h : w'.ownsRow B' 38 3 (.slice (some ⟨g, 0, none⟩) n n) n (madeCells (Value.agg #[.int .i64 0, .int .u64 0, .string ByteArray.empty]).cells (n * 3)).toList) : CRow B' (List.replicate n C.null) (.slice (some ⟨g, 0, none⟩) n n) w' := by
  unfold CRow
  rw [List.length_replicate, cv_rep]; exact h

def JoinPost (r : List C.Cl × Nat) (w : World) (e : Ending) (w' : World) : Prop :=
  ∃ v, e = .returned (.tuple #[v, .int .i64 (r.2 : Nat)]) ∧ CRow w.heap.size r.1 v w' ∧ Below w.heap.size w w'
/-- cells that are joined as far as place j -/
def jns (m : List Bool) (l : List C.Cl) (j : Nat) : List C.Cl := (C.join m l).take j ++ List.replicate (m.length - j) C.null
theorem jns_length (m : List Bool) (l : List C.Cl) (j : Nat) (h : j ≤ m.length) : (jns m l j).length = m.length := by
  simp [jns, C.join_length]; omega
theorem jns_next (m : List Bool) (l : List C.Cl) (j : Nat) (h : j < m.length) : jns m l (j + 1) = if m.getD j false = true then (jns m l j).set j (l.getD (M.cnt (m.take j)) C.null) else jns m l j := by
  have h1 : m.length - j = (m.length - (j + 1)) + 1 := by omega
  have hj : j < (C.join m l).length := by rw [C.join_length]; exact h
  unfold jns
  rw [ctake_succ (C.join m l) j hj, C.join_at m l j h, h1, List.replicate_succ]
  cases m.getD j false
  · rw [if_neg (by simp), if_neg (by simp)]; simp
  · rw [if_pos rfl, if_pos rfl, List.set_append_right _ _ (by rw [List.length_take]; omega)]
    have h2 : j - ((C.join m l).take j).length = 0 := by simp [C.join_length]; omega
    rw [h2]; simp
theorem jns_all (m : List Bool) (l : List C.Cl) : jns m l m.length = C.join m l := by
  unfold jns; rw [Nat.sub_self, List.take_of_length_le (by rw [C.join_length]; exact Nat.le_refl _)]; simp

set_option maxHeartbeats 2000000 in
set_option maxRecDepth 100000 in
theorem njoin_any (k : Int) (am : Option Addr) (cm : Nat) (m : List Bool) (a : Option Addr) (c : Nat) (l : List C.Cl) (w : World) (hmm : m.length ≤ maxLen) (hum : Bools w w.heap.size am m) (hm : l.length ≤ maxLen) (hq : l.length ≤ c ∧ c ≤ maxLen ∧ (a = none → c = 0)) (hx : ∀ x ∈ l, cOk x) (hu : Cls w w.heap.size a l) :
    Calls Try.prog 16 #[.int .i64 k, .slice am m.length cm, .slice a l.length c] w (JoinPost (C.joinR k m l) w) := by
  have HC := Lib.hid (nfit_any k am cm m a c l w hmm hum hm hx hu)
  rw [fitC_join]
  by_cases h1 : fitC k m l ≠ 0
  · rw [if_pos h1]
    generalize fitC k m l = er at *
    have g1 : ((er : Int) != 0) = true := by rw [bne_iff_ne]; omega
    clear hu hx h1 hum hq hm hmm
    go_enter Try.func16, Try.ntmps16
    go_wp2_with fail
    refine (HC.out).mono ?_
    rintro e w1 ⟨rfl, hb1⟩
    go_wp2_with fail
    go_ret2
    exact ⟨.slice none 0 0, rfl, cnilRow _ _, hb1⟩
  have h1' : fitC k m l = 0 := Classical.not_not.1 h1
  rw [if_neg h1]
  obtain ⟨hchk, _, hm64, hcnt⟩ := fitC_ok h1'
  obtain ⟨_, hl64, _⟩ := C.chk_ok hchk
  rw [h1'] at HC
  have HM := Lib.hid hum
  have HU := Lib.hid hu
  have HN := Lib.hid (fun j h => jns_next m l j h)
  have HL := Lib.hid (fun j h => jns_length m l j h)
  have HA := Lib.hid (jns_all m l)
  have HS := Lib.hid (fun j h => M.cnt_snoc m j h)
  have HCL := Lib.hid (fun j => show M.cnt (m.take j) ≤ l.length by rw [← hcnt]; exact M.cnt_take_le m j)
  have hcap := hq.1
  have hcapm := hq.2.1
  unfold maxLen at hcapm
  have HAN := Lib.hid hq.2.2
  obtain ⟨i0, hi, hz0, hz1, hz2⟩ := info_parts info_cell
  have hJ0 : jns m l 0 = List.replicate m.length C.null := by simp [jns]
  have hC0 : M.cnt (m.take 0) = 0 := by simp [M.cnt]
  clear hu hx h1 h1' hm hmm hum hchk hq hcnt
  generalize C.join m l = out at *
  generalize jns m l = jn at *
  go_enter Try.func16, Try.ntmps16
  go_wp2_with fail
  refine (HC.out).mono ?_
  rintro e w1 ⟨rfl, hb1⟩
  go_wp2_with (at_make; refine wpList_make_full _ rfl (.tmp 20) (.tmp 20) 22 rfl w1.heap.size 38 i0 (.agg #[.int .i64 0, .int .u64 0, .string ByteArray.empty]) 3 Try.underlying22 hi hz0 hz1 .i64 .i64 _ _ m.length rfl rfl rfl rfl (by rw [hz2]; omega) (by unfold maxLen; omega) (Nat.le_refl _) ?_; intro w2 hown hgrow; have hb2 : Below w1.heap.size w1 w2 := (Below.refl _ _).grown hgrow (Nat.le_refl _) (fun k hk => by cases hk); have hrow0 := made_crow hown; clear hown hgrow)
  have hw2 := below_then hb1 hb2
  have hs1 := hb1.size
  have hrow1 : CRow w.heap.size (List.replicate m.length C.null) (.slice (some ⟨w1.heap.size, 0, none⟩) m.length m.length) w2 := hrow0.weak hs1
  obtain ⟨g, hge⟩ : ∃ g, g = w1.heap.size := ⟨_, rfl⟩
  rw [← hge] at hrow1 hs1 ⊢
  clear hb1 hb2 hge hrow0
  go_loopw [2, 10, 11, 24] (fun v _ _ i wr => ∃ (j q c' : Nat) (a' : Option Addr), j ≤ m.length ∧ i = .int .i64 j ∧ q = M.cnt (m.take j) ∧ q ≤ l.length ∧ v = .slice a' (l.length - q) c' ∧ l.length - q ≤ c' ∧ c' ≤ 9223372036854775807 ∧ Cls w w.heap.size a' (l.drop q) ∧ CRow w.heap.size (jn j) (.slice (some ⟨g, 0, none⟩) m.length m.length) wr ∧ Below w.heap.size w wr) (fun _ _ _ i _ => m.length - (intOf i).toNat)
  case atStart => exact ⟨0, 0, c, a, by omega, rfl, hC0.symm, by omega, rfl, by omega, by omega, by simpa using HU.out, by rw [hJ0]; exact hrow1, hw2⟩
  case round =>
    clear hw2 hrow1
    obtain ⟨j, q, c', a', hj, rfl, hqe, hql, rfl, hc', hcm', hcl, hrow, hbw⟩ := hrel
    by_cases hlt : j < m.length
    · obtain ⟨mb, moff, rfl, hmb, hmc⟩ := HM.out (fun e => by rw [e] at hlt; simp at hlt)
      have k0 := (hbw.cell (p := ⟨mb, moff + j, none⟩) hmb).trans (hmc j hlt)
      have hn := HN.out j hlt
      have hs := HS.out j hlt
      have hq1 := HCL.out (j + 1)
      have hjl := HL.out j hj
      have hjI : (j : Int) < (m.length : Int) := by omega
      rw [← hqe] at hn hs
      clear hmc
      cases hb : m.getD j false with
      | false =>
        rw [hb] at k0 hn hs
        rw [if_neg (by simp)] at hn hs
        have HJN := Lib.hid hn
        have HSN := Lib.hid hs
        clear hn hs hb hq1
        go_wp2_with fail
        exact ⟨⟨j + 1, q, c', a', by omega, by go_num, by rw [HSN.out]; rfl, hql, rfl, hc', hcm', hcl, by rw [HJN.out]; exact hrow, hbw⟩, by simp [intOf]; omega⟩
      | true =>
        rw [hb] at k0 hn hs
        rw [if_pos rfl] at hn hs
        have hq2 : q + 1 ≤ l.length := by rw [hs] at hq1; exact hq1
        have HSN := Lib.hid hs
        have HCLS := Lib.hid hcl
        obtain ⟨b, off, rfl, hbb, hcc⟩ := hcl (fun e => by have := congrArg List.length e; simp at this; omega)
        have hcut := (HCLS.out).cutIf (c := c') (by rw [List.length_drop]; exact hc')
        rw [List.drop_drop] at hcut
        have HCUT := Lib.hid hcut
        obtain ⟨t0, t1, t2⟩ := hcc 0 (by rw [List.length_drop]; omega)
        have hgd : (l.drop q).getD 0 C.null = l.getD q C.null := by simp [List.getD, List.getElem?_drop]
        rw [hgd] at t0 t1 t2
        simp only [Nat.zero_mul, Nat.add_zero] at t0 t1 t2
        obtain ⟨y, hy⟩ : ∃ y, y = l.getD q C.null := ⟨_, rfl⟩
        rw [← hy] at t0 t1 t2 hn
        have HJN := Lib.hid hn
        have c0 : wr.drew.cell? ⟨b, off, none⟩ = some (.int .i64 y.kind) := (hbw.cell (p := ⟨b, off, none⟩) hbb).trans t0
        have c1 : wr.drew.cell? ⟨b, off + 1, none⟩ = some (.int .u64 (y.num : Int)) := (hbw.cell (p := ⟨b, off + 1, none⟩) hbb).trans t1
        have c2 : wr.drew.cell? ⟨b, off + 2, none⟩ = some (.string (str y.txt)) := (hbw.cell (p := ⟨b, off + 2, none⟩) hbb).trans t2
        have hrow2 : CRow w.heap.size (jn j) (.slice (some ⟨g, 0, none⟩) m.length m.length) wr := hrow
        obtain ⟨⟨o0, d0⟩, ⟨o1, d1⟩, ⟨o2, d2⟩, f0, f1, f2⟩ := hrow2.stores j (.int .i64 y.kind) (.int .u64 (y.num : Int)) (by rw [hjl]; exact hlt)
        have o0d : wr.drew.cell? ⟨g, j * 3, none⟩ = some o0 := d0
        have f0d : wr.drew.frozen? ⟨g, j * 3, none⟩ = false := f0
        have o1d : (wr.setCell ⟨g, j * 3, none⟩ (.int .i64 y.kind)).drew.cell? ⟨g, j * 3 + 1, none⟩ = some o1 := d1
        have f1d : (wr.setCell ⟨g, j * 3, none⟩ (.int .i64 y.kind)).drew.frozen? ⟨g, j * 3 + 1, none⟩ = false := f1
        have o2d : ((wr.setCell ⟨g, j * 3, none⟩ (.int .i64 y.kind)).setCell ⟨g, j * 3 + 1, none⟩ (.int .u64 (y.num : Int))).drew.cell? ⟨g, j * 3 + 2, none⟩ = some o2 := d2
        have f2d : ((wr.setCell ⟨g, j * 3, none⟩ (.int .i64 y.kind)).setCell ⟨g, j * 3 + 1, none⟩ (.int .u64 (y.num : Int))).drew.frozen? ⟨g, j * 3 + 2, none⟩ = false := f2
        have hput := hrow2.put j y (by rw [hjl]; exact hlt)
        have hbp : Below w.heap.size w (((wr.setCell ⟨g, j * 3, none⟩ (.int .i64 y.kind)).setCell ⟨g, j * 3 + 1, none⟩ (.int .u64 (y.num : Int))).setCell ⟨g, j * 3 + 2, none⟩ (.string (str y.txt))) :=
          ((hbw.setCell (p := ⟨g, j * 3, none⟩) hs1 _).setCell (p := ⟨g, j * 3 + 1, none⟩) hs1 _).setCell (p := ⟨g, j * 3 + 2, none⟩) hs1 _
        have HPUT := Lib.hid (And.intro hput hbp)
        have hqI : (0 : Int) < ((l.length - q : Nat) : Int) := by omega
        obtain ⟨p, hp⟩ : ∃ p, l.length - q = p + 1 := ⟨l.length - q - 1, by omega⟩
        have hp2 : l.length - (q + 1) = p := by omega
        have HP2 := Lib.hid hp2
        have HQ2 := Lib.hid hq2
        have hcp : p + 1 ≤ c' := by omega
        have hpI : (1 : Int) ≤ (p : Int) + 1 := by omega
        rw [hp]
        generalize y.kind = z at *
        generalize y.num = n at *
        generalize str y.txt = X at *
        clear hn hs hb hq1 t0 t1 t2 hcc hy hgd hput hbp hrow hrow2 hqe hcut hp hp2 hqI hc' hq2
        go_wp2_with fail
        go_region
        all_goals go_wp2_with fail
        all_goals
          exact ⟨⟨j + 1, q + 1, c' - 1, _, by omega, by go_num, HSN.out.symm, HQ2.out, by rw [HP2.out], by rw [HP2.out]; omega, by omega, HCUT.out, by rw [HJN.out]; exact HPUT.out.1, HPUT.out.2.drew⟩, by simp [intOf]; omega⟩
    · obtain rfl : j = m.length := by omega
      have HJA := HA.out
      rw [HJA] at hrow
      clear HJA
      have HRW := Lib.hid hrow
      clear hrow hqe hcl
      go_wp2_with fail
      go_ret2
      exact ⟨_, rfl, HRW.out, hbw⟩
end Go.Proofs.Ytocgimimmajjhaa
