/- The walk of the closure of table.Append. -/
import Derived.Deep.CutRange
import Derived.Deep.DeepCutAuto
import Derived.Test.YtnjnalehfhfefaaTa
import Derived.Test.YtnjnalehfhfefaaTw
namespace Go.Proofs.Ytnjnalehfhfefaa
open Go.RowKit
set_option linter.unusedVariables false

/-- append of cells onto a row of one's own: and where the row then lies -/
theorem wp_append_row {w : World} {o : Oper} {a : Act} {K : Act → World → Prop} {Q : Exit → Act → World → Prop} (s x : Operand)
    (ho : o.op = .call { callee := .builtin .append, args := #[s, x], argTypes := #[34, 34] }) (base : Nat)
    (v : Value) (xs : List C.Cl) (hs : a.eval s = v) (hown : CRow base xs v w)
    (A : Option Addr) (m c : Nat) (l : List C.Cl) (hm : l.length = m) (hx : a.eval x = .slice A m c) (hnil : A = none → c = 0) (hu : Cls w w.heap.size A l)
    (hbytes : (xs.length + m) * 32 ≤ 140737488355328) (hbase : base ≤ w.heap.size)
    (h : ∀ v' w', CRow base (xs ++ l) v' w' → Below base w w' → (∀ k, k < w.heap.size → some k ≠ v.ownBlock → w'.heap[k]? = w.heap[k]?) → w.heap.size ≤ w'.heap.size → (v'.ownBlock = v.ownBlock ∨ v'.ownBlock = some w.heap.size) → K (a.put o.dst v') w') : o.wp Try.prog a w K Q := by
  obtain ⟨i, hi, hz0, hz1, hz2⟩ := info_parts info_cell
  match A, hnil, hu, hx with
  | none, hnil, hu, hx =>
    have hl : l = [] := by
      by_cases hl : l = []
      · exact hl
      · obtain ⟨b, off, e, _⟩ := hu hl; cases e
    subst hl
    obtain rfl : m = 0 := hm.symm
    obtain rfl : c = 0 := hnil rfl
    have hrun := run_append_owned_none (P := Try.prog) (w := w) base 34 o.type 30 i 3 Try.underlying34 hi v xs.length (cv xs) hown
    unfold Oper.wp
    simp [execOp, ho, resolve, invoke, builtin, hs, hx, hrun, Result.andThen]
    exact h v w (by simpa using hown) (Below.refl _ _) (fun _ _ _ => rfl) (Nat.le_refl _) (Or.inl rfl)
  | some ad, hnil, hu, hx =>
    have hnews : ∀ j u, (cv l)[j]? = some u → w.cell? (ad.add j) = some u := by
      intro j u hj
      have hjl : j < l.length * 3 := by
        rcases Nat.lt_or_ge j (l.length * 3) with h | h
        · exact h
        · rw [List.getElem?_eq_none (by rw [cv_length]; exact h)] at hj; simp at hj
      obtain ⟨b, off, e, _, hc⟩ := hu (by intro e; rw [e] at hjl; simp at hjl)
      have e := Option.some.inj e
      subst e
      have hadd : (⟨b, off, none⟩ : Addr).add j = ⟨b, off + j, none⟩ := by unfold Addr.add; split <;> simp_all
      have hk : j / 3 < l.length := by omega
      obtain ⟨c0, c1, c2⟩ := hc (j / 3) hk
      obtain ⟨g0, g1, g2⟩ := cv_get l (j / 3) hk
      rw [hadd]
      have h3 : j % 3 = 0 ∨ j % 3 = 1 ∨ j % 3 = 2 := by omega
      rcases h3 with h | h | h
      · rw [show off + j / 3 * 3 = off + j by omega] at c0
        rw [show j / 3 * 3 = j by omega] at g0
        rw [c0, ← hj, g0]
      · rw [show off + j / 3 * 3 + 1 = off + j by omega] at c1
        rw [show j / 3 * 3 + 1 = j by omega] at g1
        rw [c1, ← hj, g1]
      · rw [show off + j / 3 * 3 + 2 = off + j by omega] at c2
        rw [show j / 3 * 3 + 2 = j by omega] at g2
        rw [c2, ← hj, g2]
    have hone : ∀ u ∈ cv l, u.oneCell' = true := by
      intro u hu
      simp only [cv, List.mem_flatMap] at hu
      obtain ⟨x, _, hx⟩ := hu
      simp [cx] at hx
      rcases hx with rfl | rfl | rfl <;> rfl
    obtain ⟨v', w', hr, h2, h3, _, h5⟩ := run_append_own_at (P := Try.prog) w base 34 o.type 30 i (.agg #[.int .i64 0, .int .u64 0, .string ByteArray.empty]) 3 32 Try.underlying34 hi hz0 hz1 hz2 rfl (by decide) v xs.length (cv xs) hown ad m c (cv l) (by rw [cv_length, hm]) hnews hone (by unfold maxLen; omega) hbytes hbase
    unfold Oper.wp execOp
    simp only [ho, resolve, invoke, builtin, Sem.run_bind, Sem.run_pure, Result.andThen_ok, List.map_toArray, List.map_cons, List.map_nil, hs, hx, hr]
    refine h v' w' ?_ ((Below.refl base w).grown h3 hbase (fun k hk => (hown.lt k hk).1)) (fun k hk hne => h3.block k hk hne) h3.size h5
    unfold CRow; rw [cv_append, List.length_append, hm]; exact h2
theorem step_append_row {w : World} {ops : Array Oper} {o : Oper} {a : Act} {K : Act → World → Prop} {Q : Exit → Act → World → Prop} {E : Prop} (hw : Region.wanted o (yielded ops a.tmps) = true) (s x : Operand)
    (ho : o.op = .call { callee := .builtin .append, args := #[s, x], argTypes := #[34, 34] }) (base : Nat)
    (v : Value) (xs : List C.Cl) (hs : a.eval s = v) (hown : CRow base xs v w)
    (A : Option Addr) (m c : Nat) (l : List C.Cl) (hm : l.length = m) (hx : a.eval x = .slice A m c) (hnil : A = none → c = 0) (hu : Cls w w.heap.size A l)
    (hbytes : (xs.length + m) * 32 ≤ 140737488355328) (hbase : base ≤ w.heap.size)
    (h : ∀ v' w', CRow base (xs ++ l) v' w' → Below base w w' → (∀ k, k < w.heap.size → some k ≠ v.ownBlock → w'.heap[k]? = w.heap[k]?) → w.heap.size ≤ w'.heap.size → (v'.ownBlock = v.ownBlock ∨ v'.ownBlock = some w.heap.size) → K (a.put o.dst v') w') :
    if Region.wanted o (yielded ops a.tmps) = true then Oper.wp Try.prog o a w K Q else E := by
  rw [if_pos hw]
  exact wp_append_row s x ho base v xs hs hown A m c l hm hx hnil hu hbytes hbase h

/-- a row of one's own has grown -/
theorem Own.app {w w4 : World} {B G : Nat} {t : Tb.T} {cv : Value} {vs : List Value} {g n c i : Nat} {v v' : Value} {l : List C.Cl} (h : Own w B G t cv (.slice (some ⟨g, 0, none⟩) n c) vs) (hi : i < t.data.length) (hv : vs[i]? = some v) (hok : ∀ x ∈ l, cOk x)
    (h4 : CRow B (t.data.getD i [] ++ l) v' w4) (hfar : ∀ k, k < w.heap.size → some k ≠ v.ownBlock → w4.heap[k]? = w.heap[k]?) (hlie : v'.ownBlock = v.ownBlock ∨ v'.ownBlock = some w.heap.size) :
    Own (w4.setCell ⟨g, i, none⟩ v') B G ⟨t.cols, t.data.set i (t.data.getD i [] ++ l)⟩ cv (.slice (some ⟨g, 0, none⟩) n c) (vs.set i v') := by
  obtain ⟨v2, k1, k2⟩ := h.row i hi
  rw [hv] at k1
  have k1 := Option.some.inj k1
  subst k1
  have same : ∀ k, k < w.heap.size → some k ≠ v.ownBlock → k ≠ g → (w4.setCell ⟨g, i, none⟩ v').heap[k]? = w.heap[k]? := fun k h1 h2 h3 => by
    rw [heap_set _ _ _ _ h3]; exact hfar k h1 h2
  have hgne : some g ≠ v.ownBlock := row_kinds h.vro k2 (by decide) rfl
  have hvro4 : VRow B vs (.slice (some ⟨g, 0, none⟩) n c) w4 := row_move h.vro (fun k hk => hfar k (h.vro.lt k hk).2 (row_kinds h.vro k2 (by decide) hk))
  have hn : n = vs.length := by
    rcases h.vro.2 with ⟨e, _⟩ | ⟨g', cap, cur, e, _⟩
    · cases e
    · injection e with _ e2 _
  subst hn
  refine ⟨(same G h.lt (fun e => two_kind k2 h.two (by decide) e) (fun e => h.gD (by rw [e]; rfl))).trans h.two, h.ge, ?_, ?_, by simp [h.len], ?_, ?_, h.okG, ?_⟩
  · exact row_move h.gro (fun k hk => same k (h.gro.lt k hk).2 (row_kinds h.gro k2 (by decide) hk) (fun e => row_kinds h.gro h.vro (by decide) hk (by rw [e]; rfl)))
  · have hr := (World.ownsRow.stored hvro4 i v').1
    unfold VRow
    rw [List.length_set]
    exact hr
  · intro j hj
    simp only [List.length_set] at hj
    by_cases hij : i = j
    · subst hij
      have e : (t.data.set i (t.data.getD i [] ++ l)).getD i [] = t.data.getD i [] ++ l := by simp [List.getD, hj]
      refine ⟨v', by rw [List.getElem?_set_self (by rw [h.len]; exact hj)], ?_⟩
      show CRow B ((t.data.set i (t.data.getD i [] ++ l)).getD i []) v' _
      rw [e]
      exact row_move h4 (fun k hk => heap_set _ _ _ _ (fun e => row_kinds h4 hvro4 (by decide) hk (by rw [e]; rfl)))
    · have e : (t.data.set i (t.data.getD i [] ++ l)).getD j [] = t.data.getD j [] := by simp [List.getD, List.getElem?_set_ne hij]
      obtain ⟨u, h1, h2⟩ := h.row j hj
      refine ⟨u, by rw [List.getElem?_set_ne hij]; exact h1, ?_⟩
      show CRow B ((t.data.set i (t.data.getD i [] ++ l)).getD j []) u _
      rw [e]
      refine row_move h2 (fun k hk => same k (h2.lt k hk).2 ?_ (fun e => row_kinds h2 h.vro (by decide) hk (by rw [e]; rfl)))
      rcases Nat.lt_or_gt_of_ne hij with hlt | hgt
      · rcases h.far i j _ _ hlt hv h1 with h4 | h4
        · rw [h4]; simp
        · rw [← hk]; exact fun e => h4 e.symm
      · rcases h.far j i _ _ hgt h1 hv with h4 | h4
        · rw [hk] at h4; cases h4
        · rw [← hk]; exact h4
  · have newer : ∀ j u, j ≠ i → vs[j]? = some u → u.ownBlock = none ∨ v'.ownBlock = none ∨ u.ownBlock ≠ v'.ownBlock := fun j u hji hu => by
      rcases hlie with e | e
      · rw [e]
        rcases Nat.lt_or_gt_of_ne hji with hlt | hgt
        · rcases h.far j i _ _ hlt hu hv with h4 | h4
          · exact Or.inl h4
          · exact Or.inr (Or.inr h4)
        · rcases h.far i j _ _ hgt hv hu with h4 | h4
          · exact Or.inr (Or.inl h4)
          · exact Or.inr (Or.inr (fun e => h4 e.symm))
      · have hjl : j < t.data.length := by
          have := (List.getElem?_eq_some_iff.1 hu).1
          rw [h.len] at this; exact this
        obtain ⟨u2, h1, h2⟩ := h.row j hjl
        rw [hu] at h1
        have h1 := Option.some.inj h1
        subst h1
        cases hub : u.ownBlock with
        | none => exact Or.inl rfl
        | some k =>
          right; right
          rw [e]
          intro e2
          have := (h2.lt k hub).2
          have := Option.some.inj e2
          omega
    intro p q x y hpq hx hy
    by_cases hp : p = i
    · subst hp
      rw [List.getElem?_set_ne (by omega)] at hy
      rw [List.getElem?_set_self (by rw [h.len]; exact hi)] at hx
      have hx := Option.some.inj hx
      subst hx
      rcases newer q y (by omega) hy with h5 | h5 | h5
      · cases hvb : v'.ownBlock with
        | none => exact Or.inl rfl
        | some k => right; rw [h5]; simp
      · exact Or.inl h5
      · exact Or.inr (fun e => h5 e.symm)
    · by_cases hq : q = i
      · subst hq
        rw [List.getElem?_set_ne (by omega)] at hx
        rw [List.getElem?_set_self (by rw [h.len]; exact hi)] at hy
        have hy := Option.some.inj hy
        subst hy
        rcases newer p x (by omega) hx with h5 | h5 | h5
        · exact Or.inl h5
        · cases hvb : x.ownBlock with
          | none => exact Or.inl rfl
          | some k => right; rw [h5]; simp
        · exact Or.inr h5
      · rw [List.getElem?_set_ne (by omega)] at hx hy
        exact h.far p q x y hpq hx hy
  · intro r hr x hx
    rcases List.mem_or_eq_of_mem_set hr with hr | hr
    · exact h.okC r hr x hx
    · subst hr
      rcases List.mem_append.1 hx with hx | hx
      · refine h.okC (t.data.getD i []) ?_ x hx
        simp only [List.getD, List.getElem?_eq_getElem hi, Option.getD_some]
        exact List.getElem_mem hi
      · exact hok x hx

theorem Tbl.below {w w' : World} {B : Nat} {ca : Option Addr} {cc : Nat} {da : Option Addr} {dc : Nat} {t : Tb.T} (h : Tbl w B ca cc da dc t) (hb : Below B w w') : Tbl w' B ca cc da dc t := ⟨Sl.below at2_firm h.gls hb, h.dat.below hb, h.gOk, h.ccap, h.dcap⟩
theorem Tbl.mono {w : World} {B B' : Nat} {ca : Option Addr} {cc : Nat} {da : Option Addr} {dc : Nat} {t : Tb.T} (h : Tbl w B ca cc da dc t) (hB : B ≤ B') : Tbl w B' ca cc da dc t := ⟨Sl.mono h.gls hB, h.dat.mono hB, h.gOk, h.ccap, h.dcap⟩
/-- appended as far as j -/
def appTo (a b : List (List C.Cl)) (j : Nat) : List (List C.Cl) := List.zipWith (· ++ ·) (a.take j) (b.take j) ++ a.drop j
theorem appTo_zero (a b : List (List C.Cl)) : appTo a b 0 = a := by simp [appTo]
theorem appTo_len (a b : List (List C.Cl)) (j : Nat) (h : a.length = b.length) : (appTo a b j).length = a.length := by simp [appTo]; omega
theorem appTo_all (a b : List (List C.Cl)) (h : a.length = b.length) : appTo a b b.length = List.zipWith (· ++ ·) a b := by
  unfold appTo; rw [List.take_of_length_le (by omega), List.take_of_length_le (Nat.le_refl _), List.drop_eq_nil_of_le (by omega), List.append_nil]
theorem appTo_get (a b : List (List C.Cl)) (j : Nat) (h : a.length = b.length) (hj : j < a.length) : (appTo a b j).getD j [] = a.getD j [] := by
  unfold appTo
  have hl : (List.zipWith (· ++ ·) (a.take j) (b.take j)).length = j := by simp; omega
  simp only [List.getD]
  rw [List.getElem?_append_right (by omega), hl, Nat.sub_self, List.getElem?_drop, Nat.add_zero]
theorem appTo_set (a b : List (List C.Cl)) (j : Nat) (h : a.length = b.length) (hj : j < a.length) : (appTo a b j).set j (a.getD j [] ++ b.getD j []) = appTo a b (j + 1) := by
  unfold appTo
  have hl : (List.zipWith (· ++ ·) (a.take j) (b.take j)).length = j := by simp; omega
  have hjb : j < b.length := by omega
  rw [List.set_append_right _ _ (by omega), hl, Nat.sub_self, List.drop_eq_getElem_cons hj, List.set_cons_zero, List.take_succ_eq_append_getElem hj, List.take_succ_eq_append_getElem hjb, List.zipWith_append (by simp; omega), List.append_assoc]
  simp [List.getD, List.getElem?_eq_getElem hj, List.getElem?_eq_getElem hjb]
theorem crow_form {B : Nat} {l : List C.Cl} {v : Value} {w : World} (h : CRow B l v w) : ∃ a n c, v = .slice a n c := by
  obtain ⟨a, c, e, _⟩ := cRow_cls h
  exact ⟨a, _, c, e⟩

set_option maxHeartbeats 4000000 in
set_option maxRecDepth 100000 in
theorem append1_any (b0 : Nat) (oa : Option Addr) (occ : Nat) (oda : Option Addr) (odc : Nat) (o t : Tb.T) (w : World) (B G : Nat) (cv dv : Value) (vs : List Value) (hO : Own w B G t cv dv vs) (h0 : Tb.check t = 0) (hb0 : b0 < B)
    (hX : Two w b0 25 (.slice oa o.cols.length occ) (.slice oda o.data.length odc)) (hto : Tbl w B oa occ oda odc o) :
    Calls Try.prog 70 #[.pointer (some ⟨G, 0, none⟩), .pointer (some ⟨b0, 0, none⟩)] w (ClPost B G (Tb.appE t o) (Tb.app t o) w) := by
  obtain ⟨ca, cc, da, dc, rfl, rfl, hTB⟩ := hO.tbl
  have HTB := Lib.hid hTB
  have hok := Tb.check_ok h0
  have h6 := hok.six
  have hBw := hO.base
  have HTO := Lib.hid hto
  have H1 := Lib.hid (fun W (hb : Below B w W) => tcheck_any oa occ oda odc o W ((HTO.out.below hb).mono (by have := hb.size; omega)))
  have H2 := Lib.hid (fun W (hb : Below w.heap.size w W) => geq_any ca oa cc occ t.cols o.cols W W.heap.size (HTB.out.next hb).gls ((HTO.out.mono hBw).next hb).gls (by omega))
  have H3 := Lib.hid (fun W (hb : Below w.heap.size w W) => trows_any ca cc da dc t W (HTB.out.next hb))
  have H4 := Lib.hid (fun W (hb : Below w.heap.size w W) => trows_any oa occ oda odc o W ((HTO.out.mono hBw).next hb))
  have hck := Tb.check_lt o
  have HO := Lib.hid hO
  have HX := Lib.hid hX
  have htw := hO.two
  have HTW := Lib.hid htw
  have x0 := hX.c0
  have x1 := hX.c1
  have hrw : ∀ u : Tb.T, Tb.check u = 0 → Tb.rows u ≤ 128 := fun u hu => by
    have hok := Tb.check_ok hu
    by_cases hz : u.cols.length = 0
    · unfold Tb.rows; rw [List.eq_nil_of_length_eq_zero (show u.data.length = 0 by have := hok.len; omega)]; simp
    · have := hok.many 0 (by omega); unfold Tb.rows; omega
  have hrt := hrw t h0
  have HRO := Lib.hid (hrw o)
  have HOKT := Lib.hid hok
  have HAPP := Lib.hid (show Tb.app t o = ⟨t.cols, List.zipWith (· ++ ·) t.data o.data⟩ from rfl)
  unfold Tb.appE
  generalize Tb.app t o = R at *
  clear hO h0 hX hto hTB hok hrw
  by_cases e1 : Tb.check o ≠ 0
  · rw [if_pos e1]
    generalize Tb.check o = er at *
    have g1 : ((er : Int) != 0) = true := by rw [bne_iff_ne]; omega
    clear htw
    go_enter Try.func70, Try.ntmps70
    go_wp2_with fail
    refine (H1.out _ (Below.refl _ _)).mono ?_
    rintro e w1 ⟨rfl, hb1⟩
    go_wp2_with fail
    go_ret
    exact ⟨rfl, hb1.mono hBw, fun h => by omega⟩
  rw [if_neg e1]
  have e1 : Tb.check o = 0 := by omega
  have HRO := Lib.hid (HRO.out e1)
  have HOKO := Lib.hid (Tb.check_ok e1)
  rw [e1] at H1
  clear e1 hck
  have hro := HRO.out
  by_cases e2 : t.cols ≠ o.cols
  · rw [if_pos e2]
    rw [decide_eq_false e2] at H2
    clear htw e2
    go_enter Try.func70, Try.ntmps70
    go_wp2_with fail
    refine (H1.out _ (Below.refl _ _)).mono ?_
    rintro e w1 ⟨rfl, hb1⟩
    have htw1 := HTW.out.next hb1
    have hx1 := HX.out.next hb1
    have p0 := fun p : WB w1 => p.cell htw1.lt htw1.c0
    have p1 := fun p : WB w1 => p.cell hx1.lt hx1.c0
    clear htw1 hx1
    go_wp2_with fail
    refine wp_region_wb (by kernel_rfl) (by kernel_rfl) ?_
    repeat (quiet_step ((go_at_call 71; refine calls_wb (v := .bool false) ?_; exact (H2.out _ (below_then hb1 (WB.below _))))))
    refine wpQuiet_nil ?_
    rintro _ ⟨p, rfl⟩
    have hp := below_then hb1 p.below
    clear p0 p1
    go_wp2_with fail
    go_ret
    exact ⟨rfl, hp.mono hBw, fun h => by omega⟩
  rw [if_neg e2]
  have e2 : t.cols = o.cols := Classical.not_not.1 e2
  rw [decide_eq_true e2] at H2
  have HCE := Lib.hid e2
  have HDL := Lib.hid (show t.data.length = o.data.length by have := HOKT.out.len; have := HOKO.out.len; rw [this, HOKT.out.len, e2])
  clear e2
  obtain ⟨E, hE⟩ : ∃ E, E = (if 128 < Tb.rows t + Tb.rows o then 2 else 0) := ⟨_, rfl⟩
  rw [← hE]
  have HE := Lib.hid hE
  clear hE
  have HRL := Lib.hid (fun j (hj : j < o.data.length) => show (t.data.getD j []).length = Tb.rows t from HOKT.out.rows j (by have := HDL.out; have := HOKT.out.len; omega))
  have HRO2 := Lib.hid (fun j (hj : j < o.data.length) => show (o.data.getD j []).length = Tb.rows o from HOKO.out.rows j (by have := HOKO.out.len; omega))
  have hol : o.data.length ≤ 6 := by have := HOKO.out.len; have := HOKO.out.six; omega
  generalize Tb.rows t = r1 at *
  generalize Tb.rows o = r2 at *
  clear htw
  go_enter Try.func70, Try.ntmps70
  go_wp2_with fail
  refine (H1.out _ (Below.refl _ _)).mono ?_
  rintro e w1 ⟨rfl, hb1⟩
  have htw1 := Lib.hid (HTW.out.next hb1)
  have hx1 := Lib.hid (HX.out.next hb1)
  have p0 := fun p : WB w1 => p.cell htw1.out.lt htw1.out.c0
  have p1 := fun p : WB w1 => p.cell hx1.out.lt hx1.out.c0
  clear x0 x1
  go_wp2_with fail
  refine wp_region_wb (by kernel_rfl) (by kernel_rfl) ?_
  repeat (quiet_step ((go_at_call 71; refine calls_wb (v := .bool true) ?_; exact (H2.out _ (below_then hb1 (WB.below _))))))
  refine wpQuiet_nil ?_
  rintro _ ⟨p, rfl⟩
  have hb2 := below_then hb1 p.below
  have htw2 := Lib.hid (htw1.out.next p.below)
  have hx2 := Lib.hid (hx1.out.next p.below)
  clear p0 p1
  generalize p.w = W2 at *
  have p0 := fun p : WB W2 => p.cell htw2.out.lt htw2.out.c0
  have p1 := fun p : WB W2 => p.cell htw2.out.lt htw2.out.c1
  have p2 := fun p : WB W2 => p.cell hx2.out.lt hx2.out.c0
  have p3 := fun p : WB W2 => p.cell hx2.out.lt hx2.out.c1
  have hwr : IntKind.i64.wrap ((r1 : Int) + (r2 : Int)) = (r1 : Int) + (r2 : Int) := by rw [IntKind.wrap_i64]; omega
  by_cases e3 : 128 < r1 + r2
  · obtain rfl : E = 2 := HE.out.trans (if_pos e3)
    have g3 : decide ((128 : Int) < (r1 : Int) + (r2 : Int)) = true := decide_eq_true (by omega)
    have g4 : (128 : Int) < (r1 : Int) + (r2 : Int) := by omega
    go_wp2_with fail
    refine wp_region_wb (by kernel_rfl) (by kernel_rfl) ?_
    iterate 4 (quiet_step ((go_at_call 39; refine calls_wb (v := .int .i64 (r1 : Int)) ?_; exact (H3.out _ (below_then hb2 (WB.below _))))))
    repeat (quiet_step ((go_at_call 39; refine calls_wb (v := .int .i64 (r2 : Int)) ?_; exact (H4.out _ (below_then hb2 (WB.below _))))))
    refine wpQuiet_nil ?_
    rintro _ ⟨p, rfl⟩
    have hb3 := below_then hb2 p.below
    have hx3 := Lib.hid (hx2.out.next p.below)
    clear p0 p1 p2 p3
    generalize p.w = W3 at *
    go_wp2_with fail
    go_ret
    exact ⟨rfl, hb3.mono hBw, fun h => by omega⟩
  obtain rfl : E = 0 := HE.out.trans (if_neg e3)
  have g3 : decide ((128 : Int) < (r1 : Int) + (r2 : Int)) = false := decide_eq_false (by omega)
  have hsm : r1 + r2 ≤ 128 := by omega
  go_wp2_with fail
  refine wp_region_wb (by kernel_rfl) (by kernel_rfl) ?_
  iterate 4 (quiet_step ((go_at_call 39; refine calls_wb (v := .int .i64 (r1 : Int)) ?_; exact (H3.out _ (below_then hb2 (WB.below _))))))
  repeat (quiet_step ((go_at_call 39; refine calls_wb (v := .int .i64 (r2 : Int)) ?_; exact (H4.out _ (below_then hb2 (WB.below _))))))
  refine wpQuiet_nil ?_
  rintro _ ⟨p, rfl⟩
  have hb3 := below_then hb2 p.below
  have hx3 := Lib.hid (hx2.out.next p.below)
  clear p0 p1 p2 p3
  generalize p.w = W3 at *
  have HO3 := Lib.hid (HO.out.move hb3)
  have y1 := hx3.out.c1
  clear e3
  go_wp2_with fail
  go_loopw [5, 6, 31] (fun _ _ i wr => ∃ (j : Nat) (vs' : List Value), j ≤ o.data.length ∧ i = .int .i64 j ∧ Hid (Own wr B G ⟨t.cols, appTo t.data o.data j⟩ (.slice ca t.cols.length cc) (.slice da t.data.length dc) vs') ∧ Below B w wr) (fun _ _ i _ => o.data.length - (intOf i).toNat)
  case atStart => exact ⟨0, vs, by omega, rfl, Lib.hid (by rw [appTo_zero]; exact HO3.out), hb3.mono hBw⟩
  case round =>
    obtain ⟨j, vs', hj, rfl, HU, hbw⟩ := hrel
    by_cases hlt : j < o.data.length
    · have hltt : j < t.data.length := by rw [HDL.out]; exact hlt
      obtain ⟨g, gc, hform⟩ : ∃ g gc, da = some ⟨g, 0, none⟩ ∧ dc = gc := by
        rcases HO.out.vro.2 with ⟨e, h0⟩ | ⟨g, cap, cur, e, _⟩
        · have := HO.out.len; omega
        · injection e with e1 e2 e3
          exact ⟨g, cap, e1, e3⟩
      obtain ⟨rfl, rfl⟩ := hform
      obtain ⟨db, doff, rfl, hdb, hdd⟩ := HTO.out.dat (fun e => by rw [e] at hlt; simp at hlt)
      obtain ⟨aj, cj, s0, s1⟩ := hdd j hlt
      have s0 := (hbw.cell (p := ⟨db, doff + j, none⟩) hdb).trans s0
      have s1 := (s1.below hbw).mono (show B ≤ wr.heap.size by have := hbw.size; omega)
      have hal := appTo_len t.data o.data j HDL.out
      obtain ⟨v, k1, k2⟩ := HU.out.row j (by simp only [hal]; exact hltt)
      simp only at k2
      rw [appTo_get _ _ _ HDL.out hltt] at k2
      obtain ⟨va, vn, vc, rfl⟩ := crow_form k2
      have hvl : j < vs'.length := by rw [HU.out.len]; simp only [hal]; exact hltt
      have kcf := vrow_at HU.out.vro j hvl
      have kc := kcf.1.trans k1
      have htr := HU.out.two
      have y1 := htr.c1
      have hgB : B ≤ g := (HU.out.vro.lt g rfl).1
      have hjI : (j : Int) < (o.data.length : Int) := by omega
      have hjT : (j : Int) < (t.data.length : Int) := by omega
      have hl1 := HRL.out j hlt
      have hl2 := HRO2.out j hlt
      have HAP := Lib.hid (fun w4 v' (h4 : CRow B (t.data.getD j [] ++ o.data.getD j []) v' w4) hfar hlie => HU.out.app (w4 := w4) (i := j) (v := .slice va vn vc) (v' := v') (l := o.data.getD j []) (by simp only [hal]; exact hltt) k1 s1.ok (by simp only; rw [appTo_get _ _ _ HDL.out hltt]; exact h4) hfar hlie)
      simp only at HAP
      rw [appTo_get _ _ _ HDL.out hltt, appTo_set _ _ _ HDL.out hltt] at HAP
      have hnv : some G ≠ (Value.slice va vn vc).ownBlock := two_kind k2 htr (by decide)
      have hgv : some g ≠ (Value.slice va vn vc).ownBlock := row_kinds HU.out.vro k2 (by decide) rfl
      have HVR := Lib.hid HU.out.vro
      have HK2 := Lib.hid k2
      have HTR := Lib.hid htr
      have hnil := s1.nil
      have HCL := Lib.hid s1.cls
      have hbase : B ≤ wr.heap.size := by have := hbw.size; omega
      generalize t.data.getD j [] = ra at *
      generalize o.data.getD j [] = rb at *
      have hby : (ra.length + rb.length) * 32 ≤ 140737488355328 := by omega
      have hlen2 := s1.len
      clear kcf k1 k2 hdd s1 hl1 hl2 htr hal hlen2
      go_wp2_with fail
      go_region_law (first
        | (refine step_append_row rfl (.tmp 47) (.tmp 48) rfl B (.slice va vn vc) ra rfl HK2.out aj rb.length cj rb rfl rfl hnil HCL.out hby hbase ?_; intro v' w5 hr5 hb5 hf5 hs5 hl5; obtain ⟨va5, vn5, vc5, rfl⟩ := crow_form hr5; have o5 := HAP.out _ _ hr5 hf5 hl5; have t5 := two_far HTR.out hnv hf5; have x5 := t5.c1; have hv5 := vrow_at (row_move HVR.out (fun k hk => hf5 k (HVR.out.lt k hk).2 (by rw [← Option.some.inj hk]; exact hgv))) j hvl; have hkx := (List.getElem?_eq_getElem hvl); have hcell := hv5.1.trans hkx; have hfr := hv5.2; clear hv5 hkx))
      all_goals
        go_wp2_with fail
        exact ⟨⟨j + 1, _, by omega, by go_num, Lib.hid o5, (hbw.drew.trans hb5).setCell (p := ⟨g, j, none⟩) hgB _⟩, by simp [intOf]; omega⟩
    · obtain rfl : j = o.data.length := by omega
      have HU2 := Lib.hid (show Own wr B G R (.slice ca t.cols.length cc) (.slice da t.data.length dc) vs' by rw [HAPP.out, ← appTo_all _ _ HDL.out]; exact HU.out)
      go_wp2_with fail
      go_ret
      exact ⟨rfl, hbw, fun _ => ⟨_, _, _, HU2.out.out⟩⟩
end Go.Proofs.Ytnjnalehfhfefaa
