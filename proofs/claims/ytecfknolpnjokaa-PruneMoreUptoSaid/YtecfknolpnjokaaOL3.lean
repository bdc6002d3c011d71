/- The law PruneMore. -/
import Derived.Test.YtecfknolpnjokaaOX1
import Derived.Laws.AppendOwnNone
namespace Go.Proofs.Ytecfknolpnjokaa
open Go.RowKit
set_option linter.unusedVariables false

theorem Rws.next {w w' : World} {a : Option Addr} {l : List (List C.Cl)} (h : Rws w w.heap.size a l) (hb : Below w.heap.size w w') : Rws w' w'.heap.size a l := by
  intro hl
  obtain ⟨b, off, e, hlt, hc⟩ := (h.below hb) hl
  refine ⟨b, off, e, Nat.lt_of_lt_of_le hlt hb.size, fun i hi => ?_⟩
  obtain ⟨ai, ci, c1, c2, c3, c4⟩ := hc i hi
  exact ⟨ai, ci, c1, c2, c3, c4.mono hb.size⟩
/-- values that are rows of cells -/
def RV (w : World) (vs : List Value) (l : List (List C.Cl)) : Prop :=
  vs.length = l.length ∧ ∀ i, i < l.length → ∃ ai ci, vs[i]? = some (.slice ai (l.getD i []).length ci) ∧ (l.getD i []).length ≤ maxLen ∧ (∀ x ∈ l.getD i [], cOk x) ∧ Cls w w.heap.size ai (l.getD i [])
theorem RV.next {w w' : World} {vs : List Value} {l : List (List C.Cl)} (h : RV w vs l) (hb : Below w.heap.size w w') : RV w' vs l := by
  refine ⟨h.1, fun i hi => ?_⟩
  obtain ⟨ai, ci, c1, c2, c3, c4⟩ := h.2 i hi
  exact ⟨ai, ci, c1, c2, c3, c4.next hb⟩
theorem RV.one {w : World} {vs : List Value} {l : List (List C.Cl)} (h : RV w vs l) : ∀ u ∈ vs, u.oneCell' = true := by
  intro u hu
  obtain ⟨i, hi, rfl⟩ := List.getElem_of_mem hu
  obtain ⟨ai, ci, c1, _⟩ := h.2 i (by rw [← h.1]; exact hi)
  rw [List.getElem?_eq_getElem hi] at c1
  rw [Option.some.inj c1]; rfl
theorem RV.append {w : World} {vs vs' : List Value} {l l' : List (List C.Cl)} (h : RV w vs l) (h' : RV w vs' l') : RV w (vs ++ vs') (l ++ l') := by
  refine ⟨by rw [List.length_append, List.length_append, h.1, h'.1], fun i hi => ?_⟩
  rw [List.length_append] at hi
  by_cases hl : i < l.length
  · rw [List.getElem?_append_left (by rw [h.1]; exact hl), show (l ++ l').getD i [] = l.getD i [] by simp [List.getD, List.getElem?_append_left hl]]
    exact h.2 i hl
  · rw [List.getElem?_append_right (by rw [h.1]; omega), h.1, show (l ++ l').getD i [] = l'.getD (i - l.length) [] by simp [List.getD, List.getElem?_append_right (show l.length ≤ i by omega)]]
    exact h'.2 (i - l.length) (by omega)
/-- the values of rows that came in -/
theorem Rws.vals {w : World} {a : Option Addr} {l : List (List C.Cl)} (h : Rws w w.heap.size a l) : ∃ vs, RV w vs l ∧ ∀ W, Below w.heap.size w W → vs ≠ [] → ∃ b off, a = some ⟨b, off, none⟩ ∧ ∀ i, i < vs.length → W.cell? ⟨b, off + i, none⟩ = vs[i]? := by
  by_cases hl : l = []
  · subst hl
    exact ⟨[], ⟨rfl, fun i hi => by simp at hi⟩, fun _ _ e => absurd rfl e⟩
  · obtain ⟨b, off, e, hlt, hc⟩ := h hl
    have hg : ∀ i, i < l.length → ∃ ai ci, ((List.range l.length).map fun i => (w.cell? ⟨b, off + i, none⟩).getD undef)[i]? = some (.slice ai (l.getD i []).length ci) ∧ (l.getD i []).length ≤ maxLen ∧ (∀ x ∈ l.getD i [], cOk x) ∧ Cls w w.heap.size ai (l.getD i []) := by
      intro i hi
      obtain ⟨ai, ci, c1, c2, c3, c4⟩ := hc i hi
      exact ⟨ai, ci, by simp [hi, c1], c2, c3, c4⟩
    refine ⟨(List.range l.length).map fun i => (w.cell? ⟨b, off + i, none⟩).getD undef, ⟨by simp, hg⟩, fun W hb _ => ⟨b, off, e, fun i hi => ?_⟩⟩
    have hi2 : i < l.length := by simpa using hi
    obtain ⟨ai, ci, c1, _⟩ := hc i hi2
    rw [hb.cell (p := ⟨b, off + i, none⟩) hlt, c1]; simp [hi2, c1]
theorem info_row : (Try.prog.info? 24).map (fun i => (i.zero, i.size, i.bytes)) = some (some (.slice none 0 0), 1, 24) := by kernel_rfl
/-- append of rows that came in, nil too, onto a row of the call's own -/
theorem wpList_append_rows {w : World} {ops : Array Oper} {rest : List Oper} {o : Oper} {a : Act} {Q : Exit → Act → World → Prop} (hgd : o.guard = none) (s x : Operand)
    (ho : o.op = .call { callee := .builtin .append, args := #[s, x], argTypes := #[35, 35] }) (base : Nat)
    (v : Value) (n : Nat) (xs : List Value) (hs : a.eval s = v) (hown : w.ownsRow base 24 1 v n xs)
    (A : Option Addr) (m c : Nat) (vs : List Value) (hm : vs.length = m) (hx : a.eval x = .slice A m c) (hnil : A = none → c = 0)
    (hu : vs ≠ [] → ∃ b off, A = some ⟨b, off, none⟩ ∧ ∀ i, i < vs.length → w.cell? ⟨b, off + i, none⟩ = vs[i]?) (h1 : ∀ u ∈ vs, u.oneCell' = true)
    (hbytes : (n + m) * 24 ≤ 140737488355328) (hbase : base ≤ w.heap.size)
    (h : ∀ v' w', w'.ownsRow base 24 1 v' (n + m) (xs ++ vs) → w.grownBy w' v.ownBlock → wpList Try.prog ops Q rest (a.put o.dst v') w') : wpList Try.prog ops Q (o :: rest) a w := by
  obtain ⟨i, hi, hz0, hz1, hz2⟩ := info_parts info_row
  match A, hnil, hu, hx with
  | none, hnil, hu, hx =>
    have hl : vs = [] := by
      by_cases hl : vs = []
      · exact hl
      · obtain ⟨b, off, e, _⟩ := hu hl; cases e
    subst hl
    obtain rfl : m = 0 := hm.symm
    obtain rfl : c = 0 := hnil rfl
    exact wpList_append_own_none hgd s x 35 ho base 24 i 1 Try.underlying35 hi v n xs hs hown hx (h v w (by simpa using hown) (World.grownBy.refl w _))
  | some ad, hnil, hu, hx =>
    refine wpList_append_own w hgd s x 35 ho base 24 i (.slice none 0 0) 1 24 Try.underlying35 hi hz0 hz1 hz2 rfl (by decide) v n xs hs hown ad m c vs hx (by rw [hm]; omega) ?_ h1 (by unfold maxLen; omega) hbytes hbase (fun v' w' h1 h2 _ => h v' w' h1 h2)
    intro j u hj
    have hjl : j < vs.length := by
      rcases Nat.lt_or_ge j vs.length with h | h
      · exact h
      · rw [List.getElem?_eq_none h] at hj; simp at hj
    obtain ⟨b, off, e, hc⟩ := hu (by intro e; rw [e] at hjl; simp at hjl)
    have e := Option.some.inj e
    subst e
    have hadd : (⟨b, off, none⟩ : Addr).add j = ⟨b, off + j, none⟩ := by unfold Addr.add; split <;> simp_all
    rw [hadd, hc j hjl, ← hj]
/-- rows of one's own read as rows -/
theorem rows_own {w : World} {B n : Nat} {v : Value} {vs : List Value} {l : List (List C.Cl)} (h : w.ownsRow B 24 1 v n vs) (hn : n = l.length) (hv : RV w vs l) : ∃ a c, v = .slice a n c ∧ Rws w w.heap.size a l := by
  rcases h.2 with ⟨rfl, h0⟩ | ⟨g, cap, cur, rfl, e2, e3, e4⟩
  · refine ⟨none, 0, by rw [h0], ?_⟩
    rw [List.eq_nil_of_length_eq_zero (by omega : l.length = 0)]; exact fun e => absurd rfl e
  · refine ⟨some ⟨g, 0, none⟩, cap, rfl, fun _ => ⟨g, 0, rfl, lt_of_block e3, fun i hi => ?_⟩⟩
    obtain ⟨ai, ci, c1, c2⟩ := hv.2 i hi
    exact ⟨ai, ci, by rw [Nat.zero_add, h.cellAt _ (by omega)]; exact c1, c2⟩
theorem andNot8 : ∀ a b : Fin 8, O.subB a.val b.val = true → bits BinOp.andNot IntKind.i64 (a.val : Int) (b.val : Int) = 0 := by decide +kernel

set_option maxHeartbeats 8000000 in
set_option maxRecDepth 100000 in
theorem pruneMore_walk (w : World) (ap : Option Addr) (cp : Nat) (p : List O.Cd) (hpm : p.length ≤ maxLen) (hpq : p.length ≤ cp ∧ cp ≤ maxLen ∧ (ap = none → cp = 0)) (hpx : ∀ x ∈ p, dOk x) (hpu : Cds w w.heap.size ap p)
    (ka : Option Addr) (kcap : Nat) (ks : List Int) (hkm : ks.length ≤ maxLen) (hkq : ks.length ≤ kcap ∧ kcap ≤ maxLen ∧ (ka = none → kcap = 0)) (hk64 : ∀ x ∈ ks, -9223372036854775808 ≤ x ∧ x ≤ 9223372036854775807) (hku : Ints w w.heap.size ka ks)
    (a : Option Addr) (cap : Nat) (rows : List (List C.Cl)) (hm : rows.length ≤ maxLen) (hq : rows.length ≤ cap ∧ cap ≤ maxLen ∧ (a = none → cap = 0)) (hu : Rws w w.heap.size a rows)
    (a' : Option Addr) (cap' : Nat) (more : List (List C.Cl)) (hm' : more.length ≤ maxLen) (hq' : more.length ≤ cap' ∧ cap' ≤ maxLen ∧ (a' = none → cap' = 0)) (hu' : Rws w w.heap.size a' more) (hbd : p.length + ks.length + rows.length + more.length ≤ 1048576) :
    Calls Try.prog 6 #[.slice ap p.length cp, .slice ka ks.length kcap, .slice a rows.length cap, .slice a' more.length cap'] w (BoolPost true w) := by
  have hrl : (rows ++ more).length ≤ maxLen := by rw [List.length_append]; unfold maxLen; omega
  have HK1 := Lib.hid (fun W (hb : Below w.heap.size w W) => known_any W ka kcap ks hkm hk64 (hku.next at1_firm hb) a cap rows hm (hu.next hb) (by omega))
  have HK2 := Lib.hid (fun W (hb : Below w.heap.size w W) a5 c5 (hr : Rws W W.heap.size a5 (rows ++ more)) => show Calls Try.prog 18 #[.slice ka ks.length kcap, .slice a5 (rows.length + more.length) c5] W (KnPost ks (rows ++ more) W) by
    have h := known_any W ka kcap ks hkm hk64 (hku.next at1_firm hb) a5 c5 (rows ++ more) hrl hr (by rw [List.length_append]; omega)
    rwa [List.length_append] at h)
  have HPR := Lib.hid (fun W (hb : Below w.heap.size w W) l sa sc fa fc (hs : Sts W W.heap.size sa (O.kn l ks.length)) (hsx : ∀ x ∈ O.kn l ks.length, sOk x) (hf : Fls W W.heap.size fa (O.fl l ks.length)) (hfx : ∀ x ∈ O.fl l ks.length, Bl.fOk x) =>
    show Calls Try.prog 13 #[.slice ap p.length cp, .slice ka ks.length kcap, .slice sa ks.length sc, .slice fa ks.length fc] W (IEPost (O.pruneR p ks (O.kn l ks.length) (O.fl l ks.length)) W) by
    have h := prune_any ap cp p ka kcap ks sa sc (O.kn l ks.length) fa fc (O.fl l ks.length) W hpm hpx (hpu.next at5_firm hb) hkm (hku.next at1_firm hb) (by rw [O.kn_length]; exact hkm) hsx hs (by rw [O.fl_length]; exact hkm) hfx hf
    rwa [O.kn_length, O.fl_length] at h)
  have HMORE := Lib.hid (fun hchk => O.prune_more p ks rows more hchk)
  have HLT := Lib.hid (fun l => O.prune_lt p ks (O.kn l ks.length) (O.fl l ks.length))
  have HBAD := Lib.hid (fun l => O.prune_bad p ks (O.kn l ks.length) (O.fl l ks.length))
  obtain ⟨vs, hrv, hvc⟩ := hu.vals
  obtain ⟨vs', hrv', hvc'⟩ := hu'.vals
  have HVC := Lib.hid hvc
  have HVC' := Lib.hid hvc'
  have HRV := Lib.hid hrv
  have HRV' := Lib.hid hrv'
  have HNIL := Lib.hid hq.2.2
  have HNIL' := Lib.hid hq'.2.2
  clear hrv hrv' hvc hvc' hpx hpu hku hu hu' hk64 hpm hpq hkq hq hq' hrl
  unfold maxLen at hm hm' hkm
  go_enter Try.func6, Try.ntmps6
  go_wp2_with fail
  refine (predBegun_any _).mono ?_
  rintro e w1 ⟨rfl, hb1⟩
  go_wp2_with fail
  refine (HK1.out _ hb1).mono ?_
  intro e w2 hk2
  have hk2' : ∃ v1 v2 ok, e = .returned (.tuple #[v1, v2, .bool ok]) ∧ Below w1.heap.size w1 w2 ∧ Hid (ok = true → ∃ sa sc fa fc, v1 = .slice sa ks.length sc ∧ v2 = .slice fa ks.length fc ∧ Sts w2 w2.heap.size sa (O.kn rows ks.length) ∧ Fls w2 w2.heap.size fa (O.fl rows ks.length) ∧ (∀ x ∈ O.kn rows ks.length, sOk x) ∧ (∀ x ∈ O.fl rows ks.length, Bl.fOk x)) := by
    rcases hk2 with ⟨rfl, h⟩ | ⟨sa, sc, fa, fc, rfl, h1, h2, h3, h4, _, h6⟩
    · exact ⟨_, _, false, rfl, h, Lib.hid (fun e => by cases e)⟩
    · exact ⟨_, _, true, rfl, h6, Lib.hid (fun _ => ⟨sa, sc, fa, fc, rfl, rfl, h1, h2, h3, h4⟩)⟩
  clear hk2
  obtain ⟨v1, v2, ok, rfl, hb2, HV⟩ := hk2'
  have hb2 := below_then hb1 hb2
  have h2 := hb2.size
  have hown0 : (w2.alloc (.cells #[] 24)).ownsRow w2.heap.size 24 1 (.slice (some ⟨w2.heap.size, 0, none⟩) 0 0) 0 [] :=
    ⟨by simp, Or.inr ⟨w2.heap.size, 0, #[], rfl, Nat.le_refl _, heap_alloc_new w2 _, Nat.le_refl _, by unfold maxLen; omega, rfl, rfl⟩⟩
  have hb3 : Below w.heap.size w (w2.alloc (.cells #[] 24)) := hb2.alloc hb2.size _
  have hbb0 : (0 + rows.length) * 24 ≤ 140737488355328 := by omega
  have hbb : (rows.length + more.length) * 24 ≤ 140737488355328 := by omega
  go_wp2_with (at_builtin; refine wpList_append_rows rfl (.tmp 30) (.tmp 31) rfl w2.heap.size _ 0 _ rfl hown0 a rows.length cap vs HRV.out.1 rfl HNIL.out (HVC.out _ hb3) HRV.out.one hbb0 (by simp) ?_)
  intro v4 w4 hown4 hg4
  have hb24 : Below w2.heap.size w2 w4 := ((Below.refl w2.heap.size w2).alloc (Nat.le_refl _) _).grown hg4 (by simp) (fun k hk => by have := (hown0.lt k hk).1; omega)
  have hb4 : Below w.heap.size w w4 := below_then hb2 hb24
  have hs4 : w2.heap.size ≤ w4.heap.size := hb24.size
  go_wp2_with (at_builtin; refine wpList_append_rows rfl (.tmp 32) (.tmp 33) rfl w2.heap.size _ rows.length _ rfl hown4 a' more.length cap' vs' HRV'.out.1 rfl HNIL'.out (HVC'.out _ hb4) HRV'.out.one hbb hs4 ?_)
  intro v5 w5 hown5 hg5
  have hb25 : Below w2.heap.size w2 w5 := hb24.grown hg5 hs4 (fun k hk => (hown4.lt k hk).1)
  have hb5 := below_then hb2 hb25
  obtain ⟨a5, c5, rfl, hrw5⟩ := rows_own hown5 (l := rows ++ more) (by rw [List.length_append]) ((HRV.out.next hb5).append (HRV'.out.next hb5))
  have HC2 := HK2.out _ hb5 a5 c5 hrw5
  have HC2 := Lib.hid HC2
  clear HVC HVC' HRV HRV' hown0 hown4 hown5 hg4 hg5 HNIL HNIL' hbb hbb0 hrw5 hb3 hs4
  clear HK1 HK2 h2
  go_wp2_with fail
  refine HC2.out.mono ?_
  intro e w6 hk6
  have hk6' : ∃ v1 v2 ok, e = .returned (.tuple #[v1, v2, .bool ok]) ∧ Below w5.heap.size w5 w6 ∧ Hid (ok = true → ∃ sa sc fa fc, v1 = .slice sa ks.length sc ∧ v2 = .slice fa ks.length fc ∧ Sts w6 w6.heap.size sa (O.kn (rows ++ more) ks.length) ∧ Fls w6 w6.heap.size fa (O.fl (rows ++ more) ks.length) ∧ (∀ x ∈ O.kn (rows ++ more) ks.length, sOk x) ∧ (∀ x ∈ O.fl (rows ++ more) ks.length, Bl.fOk x) ∧ (∀ j, j < ks.length → C.chk (ks.getD j 0) (O.colOf (rows ++ more) j) = 0)) := by
    rcases hk6 with ⟨rfl, h⟩ | ⟨sa, sc, fa, fc, rfl, h1, h2, h3, h4, h5, h6⟩
    · exact ⟨_, _, false, rfl, h, Lib.hid (fun e => by cases e)⟩
    · exact ⟨_, _, true, rfl, h6, Lib.hid (fun _ => ⟨sa, sc, fa, fc, rfl, rfl, h1, h2, h3, h4, h5⟩)⟩
  clear hk6
  obtain ⟨u1, u2, is, rfl, hb6, HV6⟩ := hk6'
  have hb26 := below_then hb25 hb6
  have hb6 := below_then hb5 hb6
  cases ok
  · go_wp2_with fail
    go_ret
    exact ⟨rfl, hb6⟩
  · cases is
    · go_wp2_with fail
      go_ret
      exact ⟨rfl, hb6⟩
    · obtain ⟨sa, sc, fa, fc, rfl, rfl, x1, x2, x3, x4⟩ := HV.out rfl
      obtain ⟨sa', sc', fa', fc', rfl, rfl, y1, y2, y3, y4, y5⟩ := HV6.out rfl
      have HP1 := Lib.hid (HPR.out _ hb6 rows sa sc fa fc (x1.next at8_firm hb26) x3 (x2.next at4_firm hb26) x4)
      have HP2 := Lib.hid (fun W (hb : Below w6.heap.size w6 W) => HPR.out _ (below_then hb6 hb) (rows ++ more) sa' sc' fa' fc' (y1.next at8_firm hb) y3 (y2.next at4_firm hb) y4)
      obtain ⟨m1, m2⟩ := HMORE.out y5
      have l1 := (HLT.out rows).1
      have l2 := (HLT.out (rows ++ more)).1
      have b1 := HBAD.out rows
      have b2 := HBAD.out (rows ++ more)
      clear HV HV6 x1 x2 x3 x4 y1 y2 y3 y4 y5 HPR HMORE HLT HBAD
      generalize O.pruneR p ks (O.kn rows ks.length) (O.fl rows ks.length) = P at *
      generalize O.pruneR p ks (O.kn (rows ++ more) ks.length) (O.fl (rows ++ more) ks.length) = P' at *
      obtain ⟨x, e⟩ := P
      obtain ⟨y, e'⟩ := P'
      simp only at m1 m2 l1 l2 b1 b2
      subst m1
      have HM := Lib.hid m2
      clear m2
      by_cases he : e = 0
      · subst he
        clear b1 b2
        have g0 : bits BinOp.andNot IntKind.i64 (x : Int) (y : Int) = 0 := andNot8 ⟨x, l1⟩ ⟨y, l2⟩ HM.out
        go_wp2_with fail
        refine HP1.out.mono ?_
        rintro _ w7 ⟨rfl, hb7⟩
        go_wp2_with fail
        refine (HP2.out _ hb7).mono ?_
        rintro _ w8 ⟨rfl, hb8⟩
        go_wp2_with fail
        go_ret
        exact ⟨by rfl, below_then (below_then hb6 hb7) hb8⟩
      · have hx := b1 he
        have hy := b2 he
        subst hx
        subst hy
        clear b1 b2
        have g1 : ((e : Int) == 0) = false := by rw [beq_eq_false_iff_ne]; omega
        go_wp2_with fail
        refine HP1.out.mono ?_
        rintro _ w7 ⟨rfl, hb7⟩
        go_wp2_with fail
        refine (HP2.out _ hb7).mono ?_
        rintro _ w8 ⟨rfl, hb8⟩
        go_wp2_with fail
        go_ret
        exact ⟨by rfl, below_then (below_then hb6 hb7) hb8⟩
end Go.Proofs.Ytecfknolpnjokaa
