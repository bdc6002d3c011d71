/- The walk of the reference's Picked. -/
import Derived.Deep.CutRange
import Derived.Deep.DeepCutAuto
import Derived.Test.YtnjnalehfhfefaaTbR6
import Derived.Test.YtnjnalehfhfefaaTl
namespace Go.Proofs.Ytnjnalehfhfefaa
open Go.RowKit
set_option linter.unusedVariables false

/-- a table in the making whose rows of cells are its own -/
structure Mt (w : World) (B H : Nat) (cv dv : Value) (vs : List Value) (l : List (List C.Cl)) : Prop where
  two : Two w H 25 cv dv
  ge : B ≤ H
  vro : VRow B vs dv w
  len : vs.length = l.length
  row : ∀ i, i < l.length → ∃ v, vs[i]? = some v ∧ CRow B (l.getD i []) v w
  okC : ∀ r ∈ l, ∀ x ∈ r, cOk x
theorem Mt.gD {w : World} {B H : Nat} {cv dv : Value} {vs : List Value} {l : List (List C.Cl)} (h : Mt w B H cv dv vs l) : some H ≠ dv.ownBlock := two_kind h.vro h.two (by decide)
theorem Mt.base {w : World} {B H : Nat} {cv dv : Value} {vs : List Value} {l : List (List C.Cl)} (h : Mt w B H cv dv vs l) : B ≤ w.heap.size := Nat.le_trans h.ge (Nat.le_of_lt h.two.lt)
theorem Mt.move {w w' : World} {B H : Nat} {cv dv : Value} {vs : List Value} {l : List (List C.Cl)} (h : Mt w B H cv dv vs l) (hb : Below w.heap.size w w') : Mt w' B H cv dv vs l :=
  ⟨h.two.next hb, h.ge, h.vro.below hb, h.len, fun i hi => by obtain ⟨v, h1, h2⟩ := h.row i hi; exact ⟨v, h1, h2.below hb⟩, h.okC⟩
theorem Mt.push {wr w9 w4 : World} {B H : Nat} {l : List (List C.Cl)} {cv dv v' u : Value} {vs : List Value} {row : List C.Cl} {o : Obj} (h : Mt wr B H cv dv vs l) (hb : Below wr.heap.size wr w9) (hu : CRow wr.heap.size row u w9)
    (hok : ∀ x ∈ row, cOk x) (h4 : VRow B (vs ++ [u]) v' w4) (hfar : ∀ k, k < (w9.alloc o).heap.size → some k ≠ dv.ownBlock → w4.heap[k]? = (w9.alloc o).heap[k]?) : Mt (w4.setCell ⟨H, 1, none⟩ v') B H cv v' (vs ++ [u]) (l ++ [row]) := by
  have h9 := h.move hb
  have hal : Below w9.heap.size w9 (w9.alloc o) := (Below.refl _ _).alloc (Nat.le_refl _) _
  have hA := h9.move hal
  have hu9 : CRow wr.heap.size row u (w9.alloc o) := hu.below hal
  have same : ∀ g, g < (w9.alloc o).heap.size → some g ≠ dv.ownBlock → g ≠ H → (w4.setCell ⟨H, 1, none⟩ v').heap[g]? = (w9.alloc o).heap[g]? := fun g h1 h2 h3 => by
    rw [heap_set _ _ _ _ h3]; exact hfar g h1 h2
  have hrow : ∀ {r v}, CRow B r v (w9.alloc o) → CRow B r v (w4.setCell ⟨H, 1, none⟩ v') := fun {r v} hr => row_move hr (fun g hg => same g (hr.lt g hg).2 (row_kinds hr hA.vro (by decide) hg) (fun e => two_kind hr hA.two (by decide) (by rw [hg, e])))
  have tw4 : Two w4 H 25 cv dv := (hfar H hA.two.lt hA.gD).trans hA.two
  refine ⟨tw4.s1 v', h.ge, ?_, by simp [h.len], ?_, ?_⟩
  · exact row_move h4 (fun g hg => heap_set _ _ _ _ (fun e => two_kind h4 tw4 (by decide) (by rw [hg, e])))
  · intro i hi
    by_cases hlt : i < l.length
    · obtain ⟨v, h1, h2⟩ := hA.row i hlt
      have e : (l ++ [row]).getD i [] = l.getD i [] := by simp [List.getD, List.getElem?_append_left hlt]
      exact ⟨v, by rw [List.getElem?_append_left (by rw [h.len]; exact hlt)]; exact h1, by rw [e]; exact hrow h2⟩
    · have hi' : i = l.length := by simp at hi; omega
      subst hi'
      have e : (l ++ [row]).getD l.length [] = row := by simp [List.getD]
      refine ⟨u, by rw [← h.len]; simp, ?_⟩
      rw [e]
      exact hrow (hu9.weak h.base)
  · intro r hr
    rcases List.mem_append.1 hr with hr | hr
    · exact h.okC r hr
    · rw [List.mem_singleton.1 hr]; exact hok
theorem Mt.reads {w : World} {B H : Nat} {cv dv : Value} {vs : List Value} {l : List (List C.Cl)} (h : Mt w B H cv dv vs l) : Reads w vs l := ⟨h.len, fun i hi => by
  obtain ⟨v, h1, h2⟩ := h.row i hi
  obtain ⟨a, c, rfl, _, _⟩ := cRow_cls h2
  have := h2.rowIn (h.okC _ (by
    simp only [List.getD, List.getElem?_eq_getElem hi, Option.getD_some]; exact List.getElem_mem hi))
  exact ⟨a, c, h1, this.2⟩⟩
theorem Mt.far {w W : World} {B H : Nat} {cv dv : Value} {vs : List Value} {l : List (List C.Cl)} (h : Mt w B H cv dv vs l) (hag : ∀ k, B ≤ k → k < w.heap.size → W.heap[k]? = w.heap[k]?) : Mt W B H cv dv vs l :=
  ⟨(hag H h.ge h.two.lt).trans h.two, h.ge, row_move h.vro (fun g hg => hag g (h.vro.lt g hg).1 (h.vro.lt g hg).2), h.len, fun i hi => by obtain ⟨v, h1, h2⟩ := h.row i hi; exact ⟨v, h1, row_move h2 (fun g hg => hag g (h2.lt g hg).1 (h2.lt g hg).2)⟩, h.okC⟩
theorem Mt.dat {w : World} {B H : Nat} {cv dv : Value} {vs : List Value} {l : List (List C.Cl)} (h : Mt w B H cv dv vs l) : ∃ da dc, dv = .slice da l.length dc ∧ Dat w w.heap.size da l ∧ (l.length ≤ dc ∧ dc ≤ maxLen ∧ (da = none → dc = 0)) := vrow_dat h.vro h.reads
def OneTabPost (ca : Option Addr) (cc : Nat) (r : Tb.T) (w : World) (e : Ending) (w' : World) : Prop :=
  ∃ da dc, e = .returned (tag ca r.cols.length cc da r.data.length dc) ∧ (∀ W : World, (∀ k, w.heap.size ≤ k → k < w'.heap.size → W.heap[k]? = w'.heap[k]?) → w'.heap.size ≤ W.heap.size → Dat W W.heap.size da r.data) ∧ (r.data.length ≤ dc ∧ dc ≤ maxLen ∧ (da = none → dc = 0)) ∧ Below w.heap.size w w'
theorem pmap_take {α : Type} (f : Nat → α) (l : List Nat) (j : Nat) (h : j < l.length) : (l.take (j + 1)).map f = (l.take j).map f ++ [f (l.getD j 0)] := by
  rw [List.take_succ_eq_append_getElem h, List.map_append]; simp [List.getD, List.getElem?_eq_getElem h]
theorem dmap_take {α : Type} (f : List C.Cl → α) (l : List (List C.Cl)) (j : Nat) (h : j < l.length) : (l.take (j + 1)).map f = (l.take j).map f ++ [f (l.getD j [])] := by
  rw [List.take_succ_eq_append_getElem h, List.map_append]; simp [List.getD, List.getElem?_eq_getElem h]
set_option maxHeartbeats 4000000 in
set_option maxRecDepth 100000 in
theorem rPicked_any (ca : Option Addr) (cc : Nat) (da : Option Addr) (dc : Nat) (t : Tb.T) (ap : Option Addr) (cp : Nat) (l : List Nat) (w : World) (ht : Tbl w w.heap.size ca cc da dc t) (hl : l.length ≤ 128) (h6 : t.data.length ≤ 6) (hr : ∀ i, i < t.data.length → ∀ x ∈ l, x < (t.data.getD i []).length) (hlu : Ints w w.heap.size ap (l.map (fun n : Nat => (n : Int)))) :
    Calls Try.prog 74 #[tag ca t.cols.length cc da t.data.length dc, .slice ap l.length cp] w (OneTabPost ca cc (Tb.picked t l) w) := by
  have a0 : Below w.heap.size w (w.alloc (.cells #[Value.slice ca t.cols.length cc, Value.slice da t.data.length dc] 25)) := (Below.refl _ _).alloc (Nat.le_refl _) _
  have a1 : Below (w.alloc (.cells #[Value.slice ca t.cols.length cc, Value.slice da t.data.length dc] 25)).heap.size (w.alloc (.cells #[Value.slice ca t.cols.length cc, Value.slice da t.data.length dc] 25)) ((w.alloc (.cells #[Value.slice ca t.cols.length cc, Value.slice da t.data.length dc] 25)).alloc (.cells #[Value.slice none 0 0, Value.slice none 0 0] 25)) := (Below.refl _ _).alloc (Nat.le_refl _) _
  have hP := (Two.next (two_new w 25 (Value.slice ca t.cols.length cc) (Value.slice da t.data.length dc)) a1)
  have hR := (two_new (w.alloc (.cells #[Value.slice ca t.cols.length cc, Value.slice da t.data.length dc] 25)) 25 (Value.slice none 0 0) (Value.slice none 0 0))
  rw [show (w.alloc (.cells #[Value.slice ca t.cols.length cc, Value.slice da t.data.length dc] 25)).heap.size = w.heap.size + 1 by simp] at hR
  have hal := (below_then a0 a1)
  have hsz : ((w.alloc (.cells #[Value.slice ca t.cols.length cc, Value.slice da t.data.length dc] 25)).alloc (.cells #[Value.slice none 0 0, Value.slice none 0 0] 25)).heap.size = w.heap.size + 2 := by simp
  have HTT := Lib.hid (ht.next hal)
  have HT0 := Lib.hid ht
  have HLU := Lib.hid (hlu.next at1_firm hal)
  have HRR := Lib.hid hr
  have HSTL := Lib.hid (fun (c : List C.Cl) j h => pmap_take (fun i => c.getD i C.null) l j h)
  have HSTD := Lib.hid (fun j h => dmap_take (fun c => l.map fun i => c.getD i C.null) t.data j h)
  have HP := Lib.hid hP
  have HR := Lib.hid hR
  have HAL := Lib.hid hal
  have HSZ := Lib.hid hsz
  clear hal hsz hP hR a0 a1 ht hlu hr
  generalize hW : ((w.alloc (.cells #[Value.slice ca t.cols.length cc, Value.slice da t.data.length dc] 25)).alloc (.cells #[Value.slice none 0 0, Value.slice none 0 0] 25)) = W1 at *
  have HW := Lib.hid hW
  clear hW
  go_enter Try.func74, Try.ntmps74
  go_upto_region 1 with fail
  rw [HW.out]
  have b_w := Below.refl W1.heap.size W1
  have cP0 := (HP.out.next b_w).c0
  have cP1 := (HP.out.next b_w).c1
  have hal : Below W1.heap.size W1 (W1.alloc (.cells #[.slice ca t.cols.length cc, .slice none 0 0] 25)) := (Below.refl _ _).alloc (Nat.le_refl _) _
  obtain ⟨H, hH⟩ : ∃ H, H = W1.heap.size := ⟨_, rfl⟩
  have hHw : W1.heap.size ≤ H := by rw [hH]; exact Nat.le_refl _
  have HM0 := Lib.hid (show Mt (W1.alloc (.cells #[.slice ca t.cols.length cc, .slice none 0 0] 25)) W1.heap.size H (.slice ca t.cols.length cc) (.slice none 0 0) [] [] from ⟨by rw [hH]; exact two_new _ _ _ _, hHw, vnilRow _ _, rfl, fun i hi => absurd hi (by simp), by simp⟩)
  have b_w := below_then b_w hal
  clear hal
  go_upto_region 2 with fail
  rw [← hH]
  generalize (W1.alloc (.cells #[.slice ca t.cols.length cc, .slice none 0 0] 25)) = V1 at *
  clear hH cP0 cP1
  go_wp2_with fail
  go_loopw [6, 7, 8] (fun c _ _ wr => ∃ (j : Nat) (dv : Value) (vs : List Value), j ≤ t.data.length ∧ c = .int .i64 j ∧ Hid (Mt wr W1.heap.size H (.slice ca t.cols.length cc) dv vs ((t.data.take j).map fun c => l.map fun i => c.getD i C.null)) ∧ Below W1.heap.size W1 wr) (fun c _ _ _ => t.data.length - (intOf c).toNat)
  case atStart => exact ⟨0, _, _, by omega, rfl, HM0, b_w⟩
  case round =>
    obtain ⟨j, dv, vs, hj, rfl, HM, hbw⟩ := hrel
    have b_w := hbw
    clear hbw
    have cP1 := (HP.out.next b_w).c1
    by_cases hlt : j < t.data.length
    · obtain ⟨db, doff, rfl, hdb, hdd⟩ := HTT.out.dat (fun e => by rw [e] at hlt; simp at hlt)
      obtain ⟨ua, uc, kv, hri⟩ := hdd j hlt
      have KV := Lib.hid (fun W (hb : Below W1.heap.size W1 W) => (hb.cell (p := ⟨db, doff + j, none⟩) hdb).trans kv)
      have HRI := Lib.hid hri
      have hrr := HRR.out j hlt
      have hstd := HSTD.out j hlt
      have HSTD2 := Lib.hid hstd
      have hjI : (j : Int) < (t.data.length : Int) := by omega
      have HMLEN := Lib.hid HM.out.len
      clear kv hri hdd hstd
      generalize t.data.getD j [] = col at *
      have HSTL2 := Lib.hid (HSTL.out col)
      have HCOK := Lib.hid HRI.out.ok
      have HCOL := Lib.hid HRI.out.cls
      go_wp2_with fail
      go_loopw [7, 8] (fun lv i wi => ∃ m : Nat, m ≤ l.length ∧ i = .int .i64 m ∧ Hid (CRow wr.heap.size ((l.take m).map fun i => col.getD i C.null) lv wi) ∧ Below wr.heap.size wr wi) (fun _ i _ => l.length - (intOf i).toNat)
      case atStart => exact ⟨0, by omega, rfl, Lib.hid (cnilRow _ _), Below.refl _ _⟩
      case round =>
        obtain ⟨m, hm, rfl, HROW, hbi⟩ := hrel
        rename World => wi
        by_cases hml : m < l.length
        · obtain ⟨ab, aoff, rfl, hab, haa⟩ := HLU.out (fun e => by rw [List.map_eq_nil_iff] at e; rw [e] at hml; simp at hml)
          have hb1 := below_then b_w hbi
          have ha0 := haa m (by simpa using hml)
          rw [Nat.mul_one, show (l.map (fun n : Nat => (n : Int))).getD m 0 = ((l.getD m 0 : Nat) : Int) by simp [List.getD, List.getElem?_eq_getElem hml]] at ha0
          have hx := hrr (l.getD m 0) (by simp only [List.getD, List.getElem?_eq_getElem hml, Option.getD_some]; exact List.getElem_mem hml)
          have hst := HSTL2.out m hml
          generalize l.getD m 0 = x at *
          obtain ⟨ub, uoff, rfl, hub, hucc⟩ := HCOL.out (fun e => by rw [e] at hx; simp at hx)
          obtain ⟨k0, k1, k2⟩ := hucc x hx
          have e0 := (hb1.cell (p := ⟨ub, uoff + x * 3, none⟩) hub).trans k0
          have e1 := (hb1.cell (p := ⟨ub, uoff + x * 3 + 1, none⟩) hub).trans k1
          have e2 := (hb1.cell (p := ⟨ub, uoff + x * 3 + 2, none⟩) hub).trans k2
          have ea := (hb1.cell (p := ⟨ab, aoff + m, none⟩) hab).trans ha0
          have kvi := KV.out wi hb1
          have cP1 := (HP.out.next hb1).c1
          have hmI : (m : Int) < (l.length : Int) := by omega
          have hxI : (x : Int) < (col.length : Int) := by omega
          clear k0 k1 k2 ha0 hucc haa hx
          generalize col.getD x C.null = cl at *
          obtain ⟨z, n, s⟩ := cl
          simp only at e0 e1 e2
          have HST := Lib.hid hst
          clear hst
          obtain ⟨la, lc, hlf⟩ : ∃ la lc, u7 = .slice la m lc := by
            obtain ⟨a, c, e, -, -⟩ := cRow_cls HROW.out
            rw [List.length_map, List.length_take, Nat.min_eq_left hm] at e
            exact ⟨a, c, e⟩
          subst hlf
          have hlen : ((l.take m).map fun i => col.getD i C.null).length = m := by rw [List.length_map, List.length_take, Nat.min_eq_left hm]
          have hlb : (((l.take m).map fun i => col.getD i C.null).length + 1) * 32 ≤ 140737488355328 := by rw [hlen]; omega
          have HLM := Lib.hid hlen
          clear hlen
          have A := Lib.hid (cls_one (w := wi.alloc (.cells #[.int .i64 z, .int .u64 (n : Int), .string (str s)] 30)) (b := wi.heap.size) (c := ⟨z, n, s⟩) (World.cell?_alloc_new _ _ _ _) (World.cell?_alloc_new _ _ _ _) (World.cell?_alloc_new _ _ _ _) (by simp))
          have hal : Below wi.heap.size wi (wi.alloc (.cells #[.int .i64 z, .int .u64 (n : Int), .string (str s)] 30)) := (Below.refl _ _).alloc (Nat.le_refl _) _
          have HR4 := Lib.hid (HROW.out.below hal)
          have hbs : wr.heap.size ≤ (wi.alloc (.cells #[.int .i64 z, .int .u64 (n : Int), .string (str s)] 30)).heap.size := by have := hbi.size; simp; omega
          have HB4 := Lib.hid (below_then hbi hal)
          clear hal
          go_wp2_with fail
          go_region_law (first
            | (refine step_append_cells rfl (.tmp 25) (.tmp 37) rfl wr.heap.size _ ((l.take m).map fun i => col.getD i C.null) rfl (CRow.below HR4.out (by first | exact Below.refl _ _ | exact (Below.refl _ _).drew)) (some ⟨wi.heap.size, 0, none⟩) 1 1 [⟨z, n, s⟩] rfl rfl (fun h => by cases h) (A.out.next (by first | exact Below.refl _ _ | exact (Below.refl _ _).drew)) hlb hbs ?_; intro v' w5 hr5 hb5 hf5 hs5; obtain ⟨a5, c5, hv5, -, -⟩ := cRow_cls hr5; have HR5 := Lib.hid hr5; clear hf5 hr5 hs5; rw [List.length_append, HLM.out] at hv5; subst hv5))
          all_goals
            go_wp2_with fail
            exact ⟨⟨m + 1, by omega, by go_num, Lib.hid (by rw [HST.out]; exact HR5.out), ((hbi.alloc hbi.size _).drew).trans hb5⟩, by simp [intOf]; omega⟩
        · obtain rfl : m = l.length := by omega
          rw [List.take_length] at HROW
          obtain ⟨la, lc, hlf, -, -⟩ := cRow_cls HROW.out
          rw [List.length_map] at hlf
          subst hlf
          have hb1 := below_then b_w hbi
          have HMI := Lib.hid (HM.out.move hbi)
          have z1 := HMI.out.two.c1
          obtain ⟨da2, dc2, hform2⟩ := vrow_form HM.out.vro
          have hvl : vs.length = j := by rw [HMLEN.out, List.length_map, List.length_take]; omega
          rw [hvl] at hform2
          subst hform2
          have HVL := Lib.hid hvl
          have hal : Below wi.heap.size wi (wi.alloc (.cells #[.slice la l.length lc] 34)) := (Below.refl _ _).alloc (Nat.le_refl _) _
          have HVR := Lib.hid (HMI.out.vro.below hal)
          have hgl : (vs.length + 1) * 24 ≤ 140737488355328 := by rw [hvl]; omega
          have hbs : W1.heap.size ≤ (wi.alloc (.cells #[.slice la l.length lc] 34)).heap.size := by have := hb1.size; simp; omega
          have HB4 := Lib.hid (below_then hb1 hal)
          have HT4 := Lib.hid (HMI.out.two.next hal)
          have hgg := HMI.out.gD
          clear hal hvl
          go_wp2_with (at_builtin; refine wpList_append_v rfl (.tmp 40) (.tmp 42) rfl W1.heap.size _ vs rfl HVR.out wi.heap.size (.slice la l.length lc) rfl (World.cell?_alloc_new _ _ _ _) rfl hgl hbs ?_)
          intro v' w5 hr5 hb5 hf5 hs5
          obtain ⟨a5, c5, hv5⟩ := vrow_form1 hr5
          rw [HVL.out] at hv5
          subst hv5
          have hf5 : ∀ k, k < (wi.alloc (.cells #[.slice la l.length lc] 34)).heap.size → some k ≠ (Value.slice da2 j dc2).ownBlock → w5.heap[k]? = (wi.alloc (.cells #[.slice la l.length lc] 34)).heap[k]? := fun k h1 h2 => hf5 k (by simpa using h1) h2
          have t5 := two_far HT4.out hgg hf5
          have x0 := t5.c1
          have f0 := t5.free 1
          have HN5 := Lib.hid (Mt.push HM.out hbi HROW.out (fun x hx => by
            obtain ⟨y, hy, rfl⟩ := List.mem_map.1 hx
            exact HCOK.out _ (cgetD_mem _ _ (hrr y hy))) hr5 hf5)
          have HB5 := Lib.hid ((HB4.out.trans hb5).setCell (p := ⟨H, 1, none⟩) hHw (.slice a5 (j + 1) c5))
          clear hb5 hf5 hr5 t5
          go_wp2_with fail
          exact ⟨⟨j + 1, _, _, by omega, by go_num, by rw [HSTD2.out]; exact HN5, HB5.out⟩, by simp [intOf]; omega⟩
    · obtain rfl : j = t.data.length := by omega
      rw [List.take_length] at HM
      obtain ⟨da2, dc2, hge2⟩ := vrow_form HM.out.vro
      have hvl : vs.length = t.data.length := by rw [HM.out.len, List.length_map]
      rw [hvl] at hge2
      subst hge2
      clear hvl
      have z0 := HM.out.two.c0
      have z1 := HM.out.two.c1
      have q0 := HR.out.next b_w
      have q1 := q0.s0 (.slice ca t.cols.length cc)
      have q2 := q1.s1 (.slice da2 t.data.length dc2)
      have b0 := q0.c0
      have f0 := q0.free 0
      have b1 := q1.c1
      have f1 := q1.free 1
      have y0 := q2.c0
      have y1 := q2.c1
      have hrb : w.heap.size ≤ w.heap.size + 1 := by omega
      have HB3 := Lib.hid (((below_then HAL.out b_w).setCell (p := ⟨w.heap.size + 1, 0, none⟩) hrb (.slice ca t.cols.length cc)).setCell (p := ⟨w.heap.size + 1, 1, none⟩) hrb (.slice da2 t.data.length dc2))
      clear q0 q1 q2
      go_wp2_with fail
      refine bodyPost_ret (v := tag ca t.cols.length cc da2 t.data.length dc2) (by simp [results, Try.results74, go_sem, y0, y1]) rfl ?_
      obtain ⟨da3, dc3, he, -, hc⟩ := HM.out.dat
      injection he with he1 he2 he3
      subst he1 he3
      have hsz2 : ((wr.setCell ⟨w.heap.size + 1, 0, none⟩ (.slice ca t.cols.length cc)).setCell ⟨w.heap.size + 1, 1, none⟩ (.slice da2 t.data.length dc2)).heap.size = wr.heap.size := by simp
      refine ⟨da2, dc2, by simp [Tb.picked], fun W hag hsW => ?_, hc, HB3.out⟩
      have hmf := HM.out.far (W := W) (fun z hz hz2 => by
        have h2 := HSZ.out
        rw [hag z (by omega) (by rw [hsz2]; exact hz2), heap_set _ _ _ _ (by simp; omega), heap_set _ _ _ _ (by simp; omega)])
      obtain ⟨da4, dc4, he4, hd4, -⟩ := hmf.dat
      injection he4 with he5 he6 he7
      subst he5
      exact hd4
end Go.Proofs.Ytnjnalehfhfefaa
