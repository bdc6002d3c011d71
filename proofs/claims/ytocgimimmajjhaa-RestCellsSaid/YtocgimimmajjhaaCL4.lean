/- The law RestCells. -/
import Derived.Test.YtocgimimmajjhaaCL1
import Derived.Test.YtocgimimmajjhaaWB
namespace Go.Proofs.Ytocgimimmajjhaa
open Go.RowKit
set_option linter.unusedVariables false

/-- append of cells that came in, nil too -/
theorem wpList_append_cells {w : World} {ops : Array Oper} {rest : List Oper} {o : Oper} {a : Act} {Q : Exit → Act → World → Prop} (hgd : o.guard = none) (s x : Operand)
    (ho : o.op = .call { callee := .builtin .append, args := #[s, x], argTypes := #[22, 22] }) (base : Nat)
    (v : Value) (xs : List C.Cl) (hs : a.eval s = v) (hown : CRow base xs v w)
    (A : Option Addr) (m c : Nat) (l : List C.Cl) (hm : l.length = m) (hx : a.eval x = .slice A m c) (hnil : A = none → c = 0) (hu : Cls w w.heap.size A l)
    (hbytes : (xs.length + m) * 32 ≤ 140737488355328) (hbase : base ≤ w.heap.size)
    (h : ∀ v' w', CRow base (xs ++ l) v' w' → Below base w w' → wpList Try.prog ops Q rest (a.put o.dst v') w') : wpList Try.prog ops Q (o :: rest) a w := by
  obtain ⟨i, hi, hz0, hz1, hz2⟩ := info_parts info_cell
  match A, hnil, hu, hx with
  | none, hnil, hu, hx =>
    have hl : l = [] := by
      by_cases hl : l = []
      · exact hl
      · obtain ⟨b, off, e, _⟩ := hu hl; cases e
    subst hl
    obtain rfl : m = 0 := hm.symm
    obtain rfl : c = 0 := hnil rfl
    exact wpList_append_own_none hgd s x 22 ho base 38 i 3 Try.underlying22 hi v xs.length (cv xs) hs hown hx (h v w (by simpa using hown) (Below.refl _ _))
  | some ad, hnil, hu, hx =>
    refine wpList_append_own w hgd s x 22 ho base 38 i (.agg #[.int .i64 0, .int .u64 0, .string ByteArray.empty]) 3 32 Try.underlying22 hi hz0 hz1 hz2 rfl (by decide) v xs.length (cv xs) hs hown ad m c (cv l) hx (by rw [cv_length, hm]) ?_ ?_ (by unfold maxLen; omega) hbytes hbase (fun v' w' h1 h2 _ => h v' w' ?_ ?_)
    · intro j u hj
      have hjl : j < l.length * 3 := by
        rcases Nat.lt_or_ge j (l.length * 3) with h | h
        · exact h
        · rw [List.getElem?_eq_none (by rw [cv_length]; exact h)] at hj; simp at hj
      obtain ⟨b, off, e, _, hc⟩ := hu (by intro e; rw [e] at hjl; simp at hjl)
      injection e with e
      subst e
      have hadd : (⟨b, off, none⟩ : Addr).add j = ⟨b, off + j, none⟩ := by unfold Addr.add; split <;> simp_all
      have hk : j / 3 < l.length := by omega
      obtain ⟨c0, c1, c2⟩ := hc (j / 3) hk
      obtain ⟨g0, g1, g2⟩ := cv_get l (j / 3) hk
      rw [hadd]
      have h3 : j % 3 = 0 ∨ j % 3 = 1 ∨ j % 3 = 2 := by omega
      rcases h3 with h | h | h
      · rw [show off + j / 3 * 3 = off + j by omega] at c0
        rw [show j / 3 * 3 = j by omega] at g0
        rw [c0, ← hj, g0]
      · rw [show off + j / 3 * 3 + 1 = off + j by omega] at c1
        rw [show j / 3 * 3 + 1 = j by omega] at g1
        rw [c1, ← hj, g1]
      · rw [show off + j / 3 * 3 + 2 = off + j by omega] at c2
        rw [show j / 3 * 3 + 2 = j by omega] at g2
        rw [c2, ← hj, g2]
    · intro u hu
      simp only [cv, List.mem_flatMap] at hu
      obtain ⟨x, _, hx⟩ := hu
      simp [cx] at hx
      rcases hx with rfl | rfl | rfl <;> rfl
    · unfold CRow; rw [cv_append, List.length_append, hm]; exact h1
    · exact (Below.refl base w).grown h2 hbase (fun k hk => (hown.lt k hk).1)

theorem CRow.other {B : Nat} {xs : List C.Cl} {gT n c : Nat} {w : World} (h : CRow B xs (.slice (some ⟨gT, 0, none⟩) n c) w) (g i : Nat) (x : Value) (hne : gT ≠ g) : CRow B xs (.slice (some ⟨gT, 0, none⟩) n c) (w.setCell ⟨g, i, none⟩ x) := by
  unfold CRow at *
  refine ⟨h.1, ?_⟩
  rcases h.2 with h2 | ⟨g', cap, cur, e1, e2, e3, e4⟩
  · exact Or.inl h2
  · injection e1 with h1 h2 h3
    injection h1 with h1
    injection h1 with h1
    subst h1 h3
    refine Or.inr ⟨gT, c, cur, by rw [h2], e2, ?_, e4⟩
    simp [World.setCell, Array.getElem?_modify, e3, show ¬ g = gT from fun e => hne e.symm]
theorem CRow.at {B : Nat} {xs : List C.Cl} {g n c : Nat} {w : World} (h : CRow B xs (.slice (some ⟨g, 0, none⟩) n c) w) : B ≤ g ∧ g < w.heap.size := by
  unfold CRow at h
  rcases h.2 with ⟨he, h0⟩ | ⟨g', cap, cur, he, e2, e3, e4⟩
  · cases he
  · injection he with h1 h2 h3
    injection h1 with h1
    injection h1 with h1
    subst h1
    exact ⟨e2, lt_of_block e3⟩
/-- what a cell is set to, of a row at block g: the row itself, and rows elsewhere -/
def put3 (w : World) (g j : Nat) (n : Int) : World := ((w.setCell ⟨g, j * 3, none⟩ (.int .i64 1)).setCell ⟨g, j * 3 + 1, none⟩ (.int .u64 n)).setCell ⟨g, j * 3 + 2, none⟩ (.string ⟨#[]⟩)
theorem put3_own {B : Nat} {xs : List C.Cl} {g n c : Nat} {w : World} (h : CRow B xs (.slice (some ⟨g, 0, none⟩) n c) w) (j m : Nat) (hj : j < xs.length) : CRow B (xs.set j ⟨1, m, []⟩) (.slice (some ⟨g, 0, none⟩) n c) (put3 w g j m) := h.put j ⟨1, m, []⟩ hj
theorem put3_far {B : Nat} {xs : List C.Cl} {v : Value} {w : World} (h : CRow B xs v w) (g j : Nat) (m : Int) (hg : g < B) : CRow B xs v (put3 w g j m) := ((h.far g _ _ hg).far g _ _ hg).far g _ _ hg
theorem put3_other {B : Nat} {xs : List C.Cl} {gT n c : Nat} {w : World} (h : CRow B xs (.slice (some ⟨gT, 0, none⟩) n c) w) (g j : Nat) (m : Int) (hg : gT ≠ g) : CRow B xs (.slice (some ⟨gT, 0, none⟩) n c) (put3 w g j m) := ((h.other g _ _ hg).other g _ _ hg).other g _ _ hg
theorem put3_below {w wr : World} (h : Below w.heap.size w wr) (g j : Nat) (m : Int) (hg : w.heap.size ≤ g) : Below w.heap.size w (put3 wr g j m) := ((h.setCell (p := ⟨g, j * 3, none⟩) hg _).setCell (p := ⟨g, j * 3 + 1, none⟩) hg _).setCell (p := ⟨g, j * 3 + 2, none⟩) hg _
theorem put3_size (w : World) (g j : Nat) (m : Int) : (put3 w g j m).heap.size = w.heap.size := by simp [put3]

theorem CRow.cls {B : Nat} {xs : List C.Cl} {a : Option Addr} {n c : Nat} {w : World} (h : CRow B xs (.slice a n c) w) : Cls w w.heap.size a xs := by
  obtain ⟨a', c', e, hc, _⟩ := cRow_cls h
  injection e with e1
  subst e1; exact hc
def c77 : C.Cl := ⟨1, 77, []⟩
theorem row_take {B : Nat} {l : List C.Cl} {a : Option Addr} {n c : Nat} {w : World} (h : CRow B (l ++ [c77]) (.slice a n c) w) : Cls w w.heap.size a l := by
  obtain ⟨a', c', e, hc, _⟩ := cRow_cls h
  injection e with e1
  subst e1
  have := hc.take l.length
  rwa [List.take_left] at this
theorem split_ok {k : Int} {l : List C.Cl} (hx : ∀ x ∈ l, cOk x) : ∀ x ∈ (splitR k l).2.1, cOk x := by
  unfold splitR
  by_cases h : C.chk k l ≠ 0
  · rw [if_pos h]; simp
  · rw [if_neg h]; exact dense_mem hx
theorem split_join (k : Int) (l : List C.Cl) : ((splitR k l).2.2 ≠ 0) ∨ ((splitR k l).2.2 = 0 ∧ C.joinR k (splitR k l).1 (splitR k l).2.1 = (l, 0)) := by
  unfold splitR
  by_cases h : C.chk k l ≠ 0
  · rw [if_pos h]; exact Or.inl h
  · rw [if_neg h]
    exact Or.inr ⟨rfl, C.joinR_back (Classical.not_not.1 h)⟩

theorem rest_same {B g c4' : Nat} {l : List C.Cl} {a : Option Addr} {w W : World} (h : CRow B (l ++ [c77]) (.slice (some ⟨g, 0, none⟩) (l.length + 1) c4') W) (hb : Below w.heap.size w W) (hu : Cls w w.heap.size a l) (hr : l.length * 32 ≤ 140737488351232) (c4 c : Nat) (p : WB W) :
    Calls Try.prog 14 #[.slice (some ⟨g, 0, none⟩) l.length c4, .slice a l.length c] p.w (BoolPost true p.w) := by
  have := csame_any (some ⟨g, 0, none⟩) a c4 c l l p.w _ ((row_take h).next p.below) (hu.next (below_then hb p.below)) (by omega)
  rwa [decide_eq_true rfl] at this
theorem rest_last {B g c4 : Nat} {l : List C.Cl} {W : World} (h : CRow B (l ++ [c77]) (.slice (some ⟨g, 0, none⟩) (l.length + 1) c4) W) :
    (∀ p : WB W, p.w.cell? ⟨g, l.length * 3, none⟩ = some (.int .i64 1)) ∧ (∀ p : WB W, p.w.cell? ⟨g, l.length * 3 + 1, none⟩ = some (.int .u64 77)) ∧ (∀ p : WB W, p.w.cell? ⟨g, l.length * 3 + 2, none⟩ = some (.string ⟨#[]⟩)) := by
  obtain ⟨b, off, e, hb, hc⟩ := h.cls (by simp)
  injection e with e
  injection e with e1 e2
  subst e1 e2
  have hk := hc l.length (by simp)
  have hg : (l ++ [c77]).getD l.length C.null = c77 := by simp [List.getD]
  rw [hg, Nat.zero_add] at hk
  exact ⟨fun p => p.cell hb hk.1, fun p => p.cell hb hk.2.1, fun p => p.cell hb hk.2.2⟩

set_option maxHeartbeats 4000000 in
set_option maxRecDepth 100000 in
theorem restCells_walk (w : World) (k : Int) (hk : -9223372036854775808 ≤ k ∧ k ≤ 9223372036854775807) (a : Option Addr) (c : Nat) (l : List C.Cl) (hm : l.length ≤ maxLen) (hcap : l.length ≤ c ∧ c ≤ maxLen ∧ (a = none → c = 0)) (hx : ∀ x ∈ l, cOk x) (hu : Cls w w.heap.size a l) (hr : l.length * 32 ≤ 140737488351232) :
    Calls Try.prog 7 #[.int .i64 k, .slice a l.length c] w (BoolPost true w) := by
  obtain ⟨i0, hi, hz0, hz1, hz2⟩ := info_parts info_cell
  have hl1 : IntKind.i64.wrap ((l.length : Int) + 1) = (l.length : Int) + 1 := by rw [IntKind.wrap_i64]; omega
  have HU := Lib.hid hu
  have HXD := Lib.hid (split_ok (k := k) hx)
  have HSJ := Lib.hid (split_join k l)
  have HNIL := Lib.hid hcap.2.2
  have HSP := Lib.hid (fun g c4 W (h : Cls W W.heap.size (some ⟨g, 0, none⟩) l) => nsplit_any k (some ⟨g, 0, none⟩) c4 l W hm hx h)
  clear hu hx hcap hk
  go_enter Try.func7, Try.ntmps7
  go_wp2_with (at_make; refine wpList_make_own _ rfl _ _ 22 rfl w.heap.size 38 i0 (.agg #[.int .i64 0, .int .u64 0, .string ByteArray.empty]) 3 Try.underlying22 hi hz0 hz1 .i64 .i64 _ (l.length + 1) rfl rfl (by omega) (by rw [hz2]; omega) (by unfold maxLen; omega) (Nat.le_refl _) ?_)
  intro w1 hown1 hgrow1
  have hb1 : Below w.heap.size w w1 := (Below.refl _ _).grown hgrow1 (Nat.le_refl _) (fun k hk => by cases hk)
  have hrow1 : CRow w.heap.size [] (.slice (some ⟨w.heap.size, 0, none⟩) 0 (l.length + 1)) w1 := hown1
  have HROW1 := Lib.hid hrow1
  have hub1 := HU.out.next hb1
  have HUB1 := Lib.hid hub1
  have hbs1 := hb1.size
  have hby : (([] : List C.Cl).length + l.length) * 32 ≤ 140737488355328 := by simp; omega
  have HBY := Lib.hid hby
  clear hown1 hgrow1 hrow1 hub1 hby
  go_wp2_with (at_builtin; refine wpList_append_cells rfl (.tmp 16) (.tmp 17) rfl w.heap.size _ [] rfl HROW1.out a l.length c l rfl rfl HNIL.out HUB1.out HBY.out hbs1 ?_)
  intro v2 w2 hrow2 hb2
  have h2 : Below w.heap.size w w2 := hb1.trans hb2
  have hrow2 : CRow w.heap.size l v2 w2 := hrow2
  clear hb2 HROW1 HUB1 HBY
  have hv2 := cRow_cls hrow2
  have HROW2 := Lib.hid hrow2
  clear hrow2
  obtain ⟨a2, c2, rfl, _, _⟩ := hv2
  go_wp2_with fail
  refine (cnum_any 77 _).mono ?_
  rintro e w3 ⟨rfl, hb3⟩
  have h3 := below_then h2 hb3
  have hrow3 := HROW2.out.below hb3
  have HROW3 := Lib.hid hrow3
  have hb5 : w.heap.size ≤ (w3.alloc (.cells #[.int .i64 1, .int .u64 77, .string ⟨#[]⟩] 38)).heap.size := by have := h3.size; simp; omega
  have hlb : (l.length + 1) * 32 ≤ 140737488355328 := by omega
  clear hb3 hrow3
  go_wp2_with (at_builtin; refine wpList_append_onec rfl (.tmp 18) (.tmp 20) rfl w.heap.size _ l rfl (HROW3.out.alloc_ _) w3.heap.size c77 rfl (World.cell?_alloc_new _ _ _ _) (World.cell?_alloc_new _ _ _ _) (World.cell?_alloc_new _ _ _ _) hlb hb5 ?_)
  intro v4 w4 hrow4 hb4 hg4
  have h4 : Below w.heap.size w w4 := (h3.alloc h3.size _).trans hb4
  obtain ⟨a4, c4, rfl, hc4, hq4⟩ := cRow_cls hrow4
  obtain ⟨g, rfl, -, hgw, hgl⟩ := hrow4.form (by simp)
  have hT4 := hrow4
  have hcls4 := row_take hrow4
  rw [show (l ++ [c77]).length = l.length + 1 by simp] at hT4 hq4 ⊢
  have hc4I : (l.length : Int) ≤ (c4 : Int) := by omega
  have hc4J : (l.length : Int) + 1 ≤ (c4 : Int) := by omega
  have HCL4 := Lib.hid hcls4
  have HT4 := Lib.hid hT4
  clear hrow4 hb4 hg4 hc4 hT4 hcls4 HROW2 HROW3 hb5 hlb hb1 h2 h3 hbs1
  go_wp2_with fail
  refine (HSP.out g c4 w4 HCL4.out).mono ?_
  rintro e w5 ⟨am, cm, vd, rfl, hM5, hqm, hrow5, hb5⟩
  obtain ⟨ad, cd, rfl, hD5, hqd⟩ := cRow_cls hrow5
  have h5 := below_then h4 hb5
  have hT5 := HT4.out.below hb5
  generalize (splitR k l).1 = ms at *
  generalize (splitR k l).2.1 = ds at *
  generalize (splitR k l).2.2 = er at *
  have HM5 := Lib.hid hM5
  have HD5 := Lib.hid hD5
  have HQM := Lib.hid hqm
  have HQD := Lib.hid hqd
  have HR5 := Lib.hid hrow5
  have HT5 := Lib.hid hT5
  clear hM5 hD5 hqm hqd hrow5 hT5 HSP HT4 HCL4
  go_wp2_with fail
  refine (nbegun_any _).mono ?_
  rintro e w6 ⟨rfl, hb6⟩
  have h6 := below_then h5 hb6
  have HJ := Lib.hid (njoin_any k am cm ms ad cd ds w6 (Nat.le_trans HQM.out.1 HQM.out.2.1) (HM5.out.next hb6) (Nat.le_trans HQD.out.1 HQD.out.2.1) HQD.out HXD.out (HD5.out.next hb6))
  generalize C.joinR k ms ds = R at *
  obtain ⟨R1, fe⟩ := R
  (try dsimp only at HSJ)
  go_wp2_with fail
  refine (HJ.out).mono ?_
  rintro e w7 ⟨vj, rfl, hrow7, hb7⟩
  obtain ⟨aj, cj, rfl, hJ7, hqj⟩ := cRow_cls hrow7
  have h7 := below_then h6 hb7
  have hT7 := (HT5.out.below hb6).below hb7
  have hD7 := (HR5.out.below hb6).below hb7
  have hgd : ∀ gd, ad = some ⟨gd, 0, none⟩ → w4.heap.size ≤ gd ∧ gd < w6.heap.size := fun gd e => by
    have := HR5.out
    rw [e] at this
    have := this.at
    have := hb6.size
    omega
  have hs5 := hb5.size
  have hs6 := hb6.size
  have hs7 := hb7.size
  have HGD := Lib.hid hgd
  have hml : ds.length ≤ 9223372036854775807 := by have := Nat.le_trans HQD.out.1 HQD.out.2.1; unfold maxLen at this; omega
  (try dsimp only at hqj)
  (try dsimp only at hrow7)
  (try dsimp only)
  have hmj : R1.length ≤ 9223372036854775807 := by have := Nat.le_trans hqj.1 hqj.2.1; unfold maxLen at this; omega
  clear HJ hJ7 HM5 HD5 HQM HQD HR5 HT5 hgd hqj hb5 hb6 hb7 h5 h6
  go_wp2_with fail
  go_loopw [11] (fun i wr => ∃ (j : Nat) (xs : List C.Cl), j ≤ ds.length ∧ i = .int .i64 j ∧ xs.length = ds.length ∧ CRow w4.heap.size xs (.slice ad ds.length cd) wr ∧ CRow w.heap.size (l ++ [c77]) (.slice (some ⟨g, 0, none⟩) (l.length + 1) c4) wr ∧ CRow w6.heap.size R1 (.slice aj R1.length cj) wr ∧ w7.heap.size ≤ wr.heap.size ∧ Below w.heap.size w wr) (fun i _ => ds.length - (intOf i).toNat)
  case atStart => exact ⟨0, ds, by omega, rfl, rfl, hD7, hT7, hrow7, Nat.le_refl _, h7⟩
  case round =>
    clear hD7 hT7 hrow7 h7
    obtain ⟨j, xs, hj, rfl, hxl, hrd, hrt, hrj, hsz, hbw⟩ := hrel
    by_cases hlt : j < ds.length
    · obtain ⟨gd, rfl, -, -, -⟩ := hrd.form (fun e => by rw [e] at hxl; simp at hxl; omega)
      obtain ⟨hg1, hg2⟩ := HGD.out gd rfl
      have hjI : (j : Int) < (ds.length : Int) := by omega
      have HRD := Lib.hid hrd
      have HRT := Lib.hid hrt
      have HRJ := Lib.hid hrj
      have HXL := Lib.hid hxl
      clear hrd hrt hrj hxl
      go_wp2_with fail
      refine (cnum_any 5 _).mono ?_
      rintro e w8 ⟨rfl, hb8⟩
      have rd8 := HRD.out.below hb8
      have hjx : j < xs.length := by rw [HXL.out]; exact hlt
      obtain ⟨⟨o0, d0⟩, ⟨o1, d1⟩, ⟨o2, d2⟩, e0, e1, e2⟩ := rd8.stores j (.int .i64 1) (.int .u64 5) hjx
      have HPD := Lib.hid (put3_own rd8 j 5 hjx)
      have HPT := Lib.hid (put3_other (HRT.out.below hb8) gd j 5 (by omega))
      have HPJ := Lib.hid (put3_far (HRJ.out.below hb8) gd j 5 hg2)
      have HPB := Lib.hid (put3_below (below_then hbw hb8) gd j 5 (by have := h4.size; omega))
      have HPS := Lib.hid (show w7.heap.size ≤ (put3 w8 gd j 5).heap.size by rw [put3_size]; have := hb8.size; omega)
      clear rd8 hjx
      go_wp2_with fail
      exact ⟨⟨j + 1, xs.set j ⟨1, 5, []⟩, by omega, by go_num, by rw [List.length_set]; exact HXL.out, HPD.out, HPT.out, HPJ.out, HPS.out, HPB.out⟩, by simp [intOf]; omega⟩
    · obtain rfl : j = ds.length := by omega
      have HRT := Lib.hid hrt
      have HRJ := Lib.hid hrj
      clear hrd hrt hrj hxl HGD
      rcases HSJ.out with hne | ⟨rfl, hR⟩
      · have g1 : ((er : Int) == 0) = false := by rw [beq_eq_false_iff_ne]; omega
        have g2 : ¬ (er : Int) = 0 := by omega
        clear hne
        go_wp2_with fail
        obtain ⟨W8, hW8⟩ : ∃ W8, W8 = wr := ⟨_, rfl⟩
        rw [← hW8] at HRT HRJ hbw hsz ⊢
        clear hW8
        go_loopw [12] (fun i wr => ∃ (j : Nat) (xs : List C.Cl), j ≤ R1.length ∧ i = .int .i64 j ∧ xs.length = R1.length ∧ CRow w6.heap.size xs (.slice aj R1.length cj) wr ∧ CRow w.heap.size (l ++ [c77]) (.slice (some ⟨g, 0, none⟩) (l.length + 1) c4) wr ∧ Below w.heap.size w wr) (fun i _ => R1.length - (intOf i).toNat)
        case atStart => exact ⟨0, R1, by omega, rfl, rfl, HRJ.out, HRT.out, hbw⟩
        case round =>
          clear HRJ HRT hbw hsz
          obtain ⟨j, xs, hj, rfl, hxl, hrj, hrt, hbw⟩ := hrel
          by_cases hlt : j < R1.length
          · obtain ⟨gj, rfl, -, hg1, -⟩ := hrj.form (fun e => by rw [e] at hxl; simp at hxl; omega)
            have hjI : (j : Int) < (R1.length : Int) := by omega
            have HRT := Lib.hid hrt
            have HRJ := Lib.hid hrj
            have HXL := Lib.hid hxl
            clear hrt hrj hxl
            go_wp2_with fail
            refine (cnum_any 6 _).mono ?_
            rintro e w9 ⟨rfl, hb9⟩
            have rj9 := HRJ.out.below hb9
            have hjx : j < xs.length := by rw [HXL.out]; exact hlt
            obtain ⟨⟨o0, d0⟩, ⟨o1, d1⟩, ⟨o2, d2⟩, e0, e1, e2⟩ := rj9.stores j (.int .i64 1) (.int .u64 6) hjx
            have HPJ := Lib.hid (put3_own rj9 j 6 hjx)
            have HPT := Lib.hid (put3_other (HRT.out.below hb9) gj j 6 (by omega))
            have HPB := Lib.hid (put3_below (below_then hbw hb9) gj j 6 (by have := h4.size; omega))
            clear rj9 hjx
            go_wp2_with fail
            exact ⟨⟨j + 1, xs.set j ⟨1, 6, []⟩, by omega, by go_num, by rw [List.length_set]; exact HXL.out, HPJ.out, HPT.out, HPB.out⟩, by simp [intOf]; omega⟩
          · obtain rfl : j = R1.length := by omega
            have HSX := Lib.hid (rest_same hrt hbw HU.out hr c4 c)
            obtain ⟨q0, q1, q2⟩ := rest_last hrt
            have HEQ : ∀ w, (binOp .eql 38 (.agg #[.int .i64 1, .int .u64 77, .string ⟨#[]⟩]) (.agg #[.int .i64 1, .int .u64 77, .string ⟨#[]⟩])).run Try.prog w = .ok (.bool true) w := fun w => cell_eql_cell w c77 c77
            have hgd := guards_cell .eql
            have hi1 : (l.length : Int) < (l.length : Int) + 1 := by omega
            have hi2 : (0 : Int) ≤ (l.length : Int) + 1 := by omega
            have hi3 : ((l.length : Int) + 1).toNat = l.length + 1 := by omega
            clear hrt hrj hxl
            go_wp2_with fail
            refine wp_region_wb (by kernel_rfl) (by kernel_rfl) ?_
            repeat (quiet_step (first
              | (go_at_call 14; exact calls_wb (HSX.out _))
              | (go_at_call 21; exact calls_wb (cnum_any 77 _))))
            refine wpQuiet_nil ?_
            rintro _ ⟨p, rfl⟩
            have hp := p.below
            go_wp2_with fail
            go_ret
            exact ⟨rfl, below_then hbw hp⟩
      · obtain ⟨rfl, rfl⟩ : R1 = l ∧ fe = 0 := by simpa using hR
        have HSL := Lib.hid (csame_any aj a cj c R1 R1 wr _ HRJ.out.cls (HU.out.next hbw) (by omega))
        rw [decide_eq_true rfl] at HSL
        clear hR
        go_wp2_with fail
        refine (HSL.out).mono ?_
        rintro e w10 ⟨rfl, hb10⟩
        have HRT := Lib.hid (HRT.out.below hb10)
        have HRJ := Lib.hid (HRJ.out.below hb10)
        have hsz : w7.heap.size ≤ w10.heap.size := by have := hb10.size; omega
        have hbw := below_then hbw hb10
        go_wp2_with fail
        obtain ⟨W8, hW8⟩ : ∃ W8, W8 = w10 := ⟨_, rfl⟩
        rw [← hW8] at HRT HRJ hbw hsz ⊢
        clear hW8
        go_loopw [12] (fun i wr => ∃ (j : Nat) (xs : List C.Cl), j ≤ R1.length ∧ i = .int .i64 j ∧ xs.length = R1.length ∧ CRow w6.heap.size xs (.slice aj R1.length cj) wr ∧ CRow w.heap.size (R1 ++ [c77]) (.slice (some ⟨g, 0, none⟩) (R1.length + 1) c4) wr ∧ Below w.heap.size w wr) (fun i _ => R1.length - (intOf i).toNat)
        case atStart => exact ⟨0, R1, by omega, rfl, rfl, HRJ.out, HRT.out, hbw⟩
        case round =>
          clear HRJ HRT hbw hsz
          obtain ⟨j, xs, hj, rfl, hxl, hrj, hrt, hbw⟩ := hrel
          by_cases hlt : j < R1.length
          · obtain ⟨gj, rfl, -, hg1, -⟩ := hrj.form (fun e => by rw [e] at hxl; simp at hxl; omega)
            have hjI : (j : Int) < (R1.length : Int) := by omega
            have HRT := Lib.hid hrt
            have HRJ := Lib.hid hrj
            have HXL := Lib.hid hxl
            clear hrt hrj hxl
            go_wp2_with fail
            refine (cnum_any 6 _).mono ?_
            rintro e w9 ⟨rfl, hb9⟩
            have rj9 := HRJ.out.below hb9
            have hjx : j < xs.length := by rw [HXL.out]; exact hlt
            obtain ⟨⟨o0, d0⟩, ⟨o1, d1⟩, ⟨o2, d2⟩, e0, e1, e2⟩ := rj9.stores j (.int .i64 1) (.int .u64 6) hjx
            have HPJ := Lib.hid (put3_own rj9 j 6 hjx)
            have HPT := Lib.hid (put3_other (HRT.out.below hb9) gj j 6 (by omega))
            have HPB := Lib.hid (put3_below (below_then hbw hb9) gj j 6 (by have := h4.size; omega))
            clear rj9 hjx
            go_wp2_with fail
            exact ⟨⟨j + 1, xs.set j ⟨1, 6, []⟩, by omega, by go_num, by rw [List.length_set]; exact HXL.out, HPJ.out, HPT.out, HPB.out⟩, by simp [intOf]; omega⟩
          · obtain rfl : j = R1.length := by omega
            have HSX := Lib.hid (rest_same hrt hbw HU.out hr c4 c)
            obtain ⟨q0, q1, q2⟩ := rest_last hrt
            have HEQ : ∀ w, (binOp .eql 38 (.agg #[.int .i64 1, .int .u64 77, .string ⟨#[]⟩]) (.agg #[.int .i64 1, .int .u64 77, .string ⟨#[]⟩])).run Try.prog w = .ok (.bool true) w := fun w => cell_eql_cell w c77 c77
            have hgd := guards_cell .eql
            have hi1 : (R1.length : Int) < (R1.length : Int) + 1 := by omega
            have hi2 : (0 : Int) ≤ (R1.length : Int) + 1 := by omega
            have hi3 : ((R1.length : Int) + 1).toNat = R1.length + 1 := by omega
            clear hrt hrj hxl
            go_wp2_with fail
            refine wp_region_wb (by kernel_rfl) (by kernel_rfl) ?_
            repeat (quiet_step (first
              | (go_at_call 14; exact calls_wb (HSX.out _))
              | (go_at_call 21; exact calls_wb (cnum_any 77 _))))
            refine wpQuiet_nil ?_
            rintro _ ⟨p, rfl⟩
            have hp := p.below
            go_wp2_with fail
            go_ret
            exact ⟨rfl, below_then hbw hp⟩
end Go.Proofs.Ytocgimimmajjhaa
