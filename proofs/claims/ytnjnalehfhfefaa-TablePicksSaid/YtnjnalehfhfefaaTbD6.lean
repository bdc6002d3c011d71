/- The walk of the closure of table.Project. -/
import Derived.Deep.CutRange
import Derived.Deep.DeepCutAuto
import Derived.Test.YtnjnalehfhfefaaTbD1
import Derived.Test.YtnjnalehfhfefaaTbD3
namespace Go.Proofs.Ytnjnalehfhfefaa
open Go.RowKit
set_option linter.unusedVariables false

/-- a table in the making: its block H, columns, slices -/
structure Mk (w : World) (B H : Nat) (d : List Tb.Col) (vs : List Value) (cv dv : Value) : Prop where
  two : Two w H 25 cv dv
  ge : B ≤ H
  gro : GRow B d cv w
  vro : VRow B vs dv w
theorem Mk.move {w w' : World} {B H : Nat} {d : List Tb.Col} {vs : List Value} {cv dv : Value} (h : Mk w B H d vs cv dv) (hb : Below w.heap.size w w') : Mk w' B H d vs cv dv := ⟨h.two.next hb, h.ge, h.gro.below hb, h.vro.below hb⟩
theorem Mk.gG {w : World} {B H : Nat} {d : List Tb.Col} {vs : List Value} {cv dv : Value} (h : Mk w B H d vs cv dv) : some H ≠ cv.ownBlock := two_kind h.gro h.two (by decide)
theorem Mk.gD {w : World} {B H : Nat} {d : List Tb.Col} {vs : List Value} {cv dv : Value} (h : Mk w B H d vs cv dv) : some H ≠ dv.ownBlock := two_kind h.vro h.two (by decide)
theorem Mk.col {w w4 : World} {B H : Nat} {d : List Tb.Col} {vs : List Value} {cv dv v' : Value} {c : Tb.Col} {o : Obj} (h : Mk w B H d vs cv dv) (h4 : GRow B (d ++ [c]) v' w4)
    (hfar : ∀ k, k < (w.alloc o).heap.size → some k ≠ cv.ownBlock → w4.heap[k]? = (w.alloc o).heap[k]?) : Mk (w4.setCell ⟨H, 0, none⟩ v') B H (d ++ [c]) vs v' dv := by
  have hal : Below w.heap.size w (w.alloc o) := (Below.refl _ _).alloc (Nat.le_refl _) _
  have hA := h.move hal
  have tw4 : Two w4 H 25 cv dv := (hfar H hA.two.lt hA.gG).trans hA.two
  refine ⟨tw4.s0 v', h.ge, ?_, ?_⟩
  · exact row_move h4 (fun g hg => heap_set _ _ _ _ (fun e => two_kind h4 tw4 (by decide) (by rw [hg, e])))
  · exact row_move hA.vro (fun g hg => by
      rw [heap_set _ _ _ _ (fun e => hA.gD (by rw [hg, e]))]
      exact hfar g (hA.vro.lt g hg).2 (row_kinds hA.vro hA.gro (by decide) hg))
theorem Mk.val {w w4 : World} {B H : Nat} {d : List Tb.Col} {vs : List Value} {cv dv v' u : Value} {o : Obj} (h : Mk w B H d vs cv dv) (h4 : VRow B (vs ++ [u]) v' w4)
    (hfar : ∀ k, k < (w.alloc o).heap.size → some k ≠ dv.ownBlock → w4.heap[k]? = (w.alloc o).heap[k]?) : Mk (w4.setCell ⟨H, 1, none⟩ v') B H d (vs ++ [u]) cv v' := by
  have hal : Below w.heap.size w (w.alloc o) := (Below.refl _ _).alloc (Nat.le_refl _) _
  have hA := h.move hal
  have tw4 : Two w4 H 25 cv dv := (hfar H hA.two.lt hA.gD).trans hA.two
  refine ⟨tw4.s1 v', h.ge, ?_, ?_⟩
  · exact row_move hA.gro (fun g hg => by
      rw [heap_set _ _ _ _ (fun e => hA.gG (by rw [hg, e]))]
      exact hfar g (hA.gro.lt g hg).2 (row_kinds hA.gro hA.vro (by decide) hg))
  · exact row_move h4 (fun g hg => heap_set _ _ _ _ (fun e => two_kind h4 tw4 (by decide) (by rw [hg, e])))
theorem projE_cons (t : Tb.T) (d : List Tb.Col) (n : List UInt8) (r : List (List UInt8)) : Tb.projE t d (n :: r) = if ¬ Tb.has t.cols n then 5 else if Tb.has d n then 6 else Tb.projE t (d ++ [t.cols.getD (Tb.pos t.cols n) Tb.nulC]) r := rfl
theorem tdrop_cons (l : List (List UInt8)) (j : Nat) (h : j < l.length) : l.drop j = l.getD j [] :: l.drop (j + 1) := by
  rw [List.drop_eq_getElem_cons h]; simp [List.getD, List.getElem?_eq_getElem h]
theorem tmap_take {α : Type} (f : List UInt8 → α) (l : List (List UInt8)) (j : Nat) (h : j < l.length) : (l.take (j + 1)).map f = (l.take j).map f ++ [f (l.getD j [])] := by
  rw [List.take_succ_eq_append_getElem h, List.map_append]; simp [List.getD, List.getElem?_eq_getElem h]
theorem row_le {w : World} {B B' : Nat} {e : TypeId} {sz : Nat} {v : Value} {n : Nat} {xs : List Value} (h : w.ownsRow B e sz v n xs) (hb : B' ≤ B) : w.ownsRow B' e sz v n xs := by
  refine ⟨h.1, ?_⟩
  rcases h.2 with hn | ⟨g, cap, cur, e1, e2, e3⟩
  · exact Or.inl hn
  · exact Or.inr ⟨g, cap, cur, e1, by omega, e3⟩
theorem nodup_le : ∀ (n : Nat) (l : List Nat), l.Nodup → (∀ x ∈ l, x < n) → l.length ≤ n
  | 0, l, _, h => by
    cases l with
    | nil => simp
    | cons x l => exact absurd (h x (by simp)) (by omega)
  | n + 1, l, hd, h => by
    by_cases hn : n ∈ l
    · have h1 := nodup_le n (l.erase n) (hd.erase n) (fun x hx => by
        have := (hd.mem_erase_iff).1 hx
        have := h x this.2
        omega)
      rw [List.length_erase_of_mem hn] at h1
      omega
    · have := nodup_le n l hd (fun x hx => by
        have h1 := h x hx
        have : x ≠ n := fun e => hn (by rw [← e]; exact hx)
        omega)
      omega
theorem ttake_snoc (l : List (List UInt8)) (j : Nat) (h : j < l.length) : l.take (j + 1) = l.take j ++ [l.getD j []] := by
  rw [List.take_succ_eq_append_getElem h]; simp [List.getD, List.getElem?_eq_getElem h]
def pickC (t : Tb.T) (n : List UInt8) : Tb.Col := t.cols.getD (Tb.pos t.cols n) Tb.nulC
def pickV (t : Tb.T) (vs : List Value) (n : List UInt8) : Value := vs.getD (Tb.pos t.cols n) undef
/-- the names that were picked: each is there, none twice -/
def Picks (t : Tb.T) (l : List (List UInt8)) : Prop := (∀ x ∈ l, Tb.has t.cols x) ∧ (l.map (Tb.pos t.cols)).Nodup
theorem Picks.le {t : Tb.T} {l : List (List UInt8)} (h : Picks t l) : l.length ≤ t.cols.length := by
  have := nodup_le t.cols.length _ h.2 (fun x hx => by
    obtain ⟨y, hy, rfl⟩ := List.mem_map.1 hx
    exact h.1 y hy)
  simpa using this
theorem Picks.snoc {t : Tb.T} {l : List (List UInt8)} {n : List UInt8} (h : Picks t l) (hn : Tb.has t.cols n) (h2 : ¬ Tb.has (l.map (pickC t)) n) : Picks t (l ++ [n]) := by
  refine ⟨fun x hx => ?_, ?_⟩
  · rcases List.mem_append.1 hx with hx | hx
    · exact h.1 x hx
    · rw [List.mem_singleton.1 hx]; exact hn
  · rw [List.map_append, List.nodup_append]
    refine ⟨h.2, by simp, ?_⟩
    intro a ha b hb e
    simp only [List.map_cons, List.map_nil, List.mem_singleton] at hb
    subst hb
    obtain ⟨y, hy, hay⟩ := List.mem_map.1 ha
    apply h2
    rw [Tb.has_iff]
    obtain ⟨i, hi, rfl⟩ := List.mem_iff_getElem.1 hy
    refine ⟨i, by simpa using hi, ?_⟩
    have e1 : (l.map (pickC t)).getD i Tb.nulC = pickC t l[i] := by simp [List.getD, hi]
    rw [e1]
    unfold pickC
    rw [hay, e]
    exact Tb.pos_name hn

set_option maxHeartbeats 4000000 in
set_option maxRecDepth 100000 in
theorem project1_any (b0 : Nat) (an : Option Addr) (cn : Nat) (ns : List (List UInt8)) (t : Tb.T) (w : World) (B G : Nat) (cv dv : Value) (vs : List Value) (hO : Own w B G t cv dv vs) (h0 : Tb.check t = 0) (hb0 : b0 < B)
    (hN : Boxed w b0 49 (.slice an ns.length cn)) (hnm : ns.length ≤ maxLen) (hnu : Txts w w.heap.size an ns) :
    Calls Try.prog 68 #[.pointer (some ⟨G, 0, none⟩), .pointer (some ⟨b0, 0, none⟩)] w (ClPost B G (Tb.projE t [] ns) (Tb.proj t ns) w) := by
  obtain ⟨ca, cc, da, dc, rfl, rfl, hTB⟩ := hO.tbl
  have HTB := Lib.hid hTB
  have hok := Tb.check_ok h0
  have hBw := hO.base
  have h6 := hok.six
  have HLEN := Lib.hid hok.len
  have hm6 : t.cols.length ≤ maxLen := by unfold maxLen; omega
  have HPL := Lib.hid (fun n W (hb : Below w.heap.size w W) => place_any n ca cc t.cols W hm6 (HTB.out.next hb).gls)
  have HPO := Lib.hid (fun n (d : List Tb.Col) a c W (hd : d.length ≤ 1048576) (hu : Gls W W.heap.size a d) => place_any n a c d W (by unfold maxLen; omega) hu)
  have HO := Lib.hid hO
  have HNU := Lib.hid hnu
  have hR := two_new w 25 (.slice none 0 0) (.slice none 0 0)
  have hal : Below w.heap.size w (w.alloc (.cells #[.slice none 0 0, .slice none 0 0] 25)) := (Below.refl _ _).alloc (Nat.le_refl _) _
  have c0 := boxed_c0 (boxed_next hN hal)
  obtain ⟨H, hH⟩ : ∃ H, H = w.heap.size := ⟨_, rfl⟩
  have HMK0 := Lib.hid (show Mk (w.alloc (.cells #[.slice none 0 0, .slice none 0 0] 25)) w.heap.size H [] [] (.slice none 0 0) (.slice none 0 0) from ⟨by rw [hH]; exact hR, by omega, gnilRow _ _, vnilRow _ _⟩)
  have hHw : w.heap.size ≤ H := by omega
  have HGD := Lib.hid (fun n (h : Tb.has t.cols n) => hO.okG (t.cols.getD (Tb.pos t.cols n) Tb.nulC) (by
    have h' : Tb.pos t.cols n < t.cols.length := h
    simp only [List.getD, List.getElem?_eq_getElem h', Option.getD_some]; exact List.getElem_mem h'))
  have HSTC := Lib.hid (fun j h => tmap_take (pickC t) ns j h)
  have HSTV := Lib.hid (fun j h => tmap_take (pickV t vs) ns j h)
  have HDR := Lib.hid (fun j h => tdrop_cons ns j h)
  have HPROJ := Lib.hid (show Tb.proj t ns = ⟨ns.map (pickC t), ns.map fun n => t.data.getD (Tb.pos t.cols n) []⟩ from rfl)
  have HE0 := Lib.hid (show Tb.projE t [] ns = Tb.projE t ((ns.take 0).map (pickC t)) (ns.drop 0) by simp)
  generalize Tb.proj t ns = R at *
  generalize Tb.projE t [] ns = E at *
  unfold maxLen at hnm
  clear hO hN hnu h0 hok hTB hR
  go_enter Try.func68, Try.ntmps68
  go_wp2_with fail
  rw [← hH]
  clear hH
  go_loopw [6, 7, 10] (fun _ _ i wr => ∃ (j : Nat) (cv dv : Value), j ≤ ns.length ∧ i = .int .i64 j ∧ Hid (Mk wr w.heap.size H ((ns.take j).map (pickC t)) ((ns.take j).map (pickV t vs)) cv dv) ∧ Below w.heap.size w wr ∧ Hid (E = Tb.projE t ((ns.take j).map (pickC t)) (ns.drop j)) ∧ Hid (Picks t (ns.take j))) (fun _ _ i _ => ns.length - (intOf i).toNat)
  case atStart => exact ⟨0, _, _, by omega, rfl, HMK0, hal, HE0, Lib.hid ⟨by simp, by simp⟩⟩
  case round =>
    obtain ⟨j, cvO, dvO, hj, rfl, HM, hbw, HE, HAS⟩ := hrel
    have hj6 : j ≤ 6 := by have := HAS.out.le; simp at this; omega
    by_cases hlt : j < ns.length
    · obtain ⟨bb, boff, rfl, hbb, hbc⟩ := HNU.out (fun e => by rw [e] at hlt; simp at hlt)
      have m0 := (hbw.cell (p := ⟨bb, boff + j, none⟩) hbb).trans (hbc j hlt)
      have hjI : (j : Int) < (ns.length : Int) := by omega
      have hstc := HSTC.out j hlt
      have hstv := HSTV.out j hlt
      have hdr := HDR.out j hlt
      have HEN := Lib.hid (show E = if ¬ Tb.has t.cols (ns.getD j []) then 5 else if Tb.has ((ns.take j).map (pickC t)) (ns.getD j []) then 6 else Tb.projE t ((ns.take (j + 1)).map (pickC t)) (ns.drop (j + 1)) by
        rw [HE.out, hdr, projE_cons, hstc]; rfl)
      have HAN := Lib.hid (fun h h2 => show Picks t (ns.take (j + 1)) by rw [ttake_snoc ns j hlt]; exact HAS.out.snoc h h2)
      have hdl : ((ns.take j).map (pickC t)).length = j := by simp; omega
      have hvl : ((ns.take j).map (pickV t vs)).length = j := by simp; omega
      have HP1 := Lib.hid (HPL.out (ns.getD j []) wr hbw)
      have HP2 := Lib.hid (fun W a c h hu => HPO.out (ns.getD j []) ((ns.take j).map (pickC t)) a c W h hu)
      have HGDJ := Lib.hid (HGD.out (ns.getD j []))
      have hOr := HO.out.move hbw
      have y0 := hOr.two.c0
      clear HE
      generalize ns.getD j [] = nm at *
      by_cases e1 : ¬ Tb.has t.cols nm
      · have HF := Lib.hid (HEN.out.trans (if_pos e1))
        rw [idx_neg e1] at HP1
        clear hstc hstv hdr HEN HAN hdl hvl HP2 HGDJ e1 hbc
        go_wp2_with fail
        refine (HP1.out).mono ?_
        rintro e w3 ⟨rfl, hb3⟩
        go_wp2_with fail
        go_ret
        exact ⟨by rw [HF.out]; rfl, (below_then hbw hb3).mono hBw, fun h => by have := HF.out; omega⟩
      have e1 : Tb.has t.cols nm := Classical.not_not.1 e1
      rw [idx_pos e1] at HP1
      have hql : Tb.pos t.cols nm < t.cols.length := e1
      obtain ⟨ga, gc, hform⟩ := grow_form HM.out.gro
      rw [hdl] at hform
      subst hform
      obtain ⟨ga2, gc2, hge, hgu, -⟩ := grow_gls HM.out.gro
      rw [hdl] at hge
      injection hge with he1 _ he3
      subst he1 he3
      have HGU := Lib.hid hgu
      have HDL := Lib.hid hdl
      have g0 : decide ((Tb.pos t.cols nm : Int) < 0) = false := decide_eq_false (by omega)
      have HP2' := Lib.hid (fun W (hb : Below wr.heap.size wr W) => show Calls Try.prog 47 #[.slice ga j gc, .string (str nm)] W (IntPost (Tb.idx ((ns.take j).map (pickC t)) nm) W) by
        have := HP2.out W ga gc (by omega) (HGU.out.next at2_firm hb)
        rwa [HDL.out] at this)
      clear HP2
      by_cases e2 : Tb.has ((ns.take j).map (pickC t)) nm
      · have HF := Lib.hid (HEN.out.trans ((if_neg (by simp [e1])).trans (if_pos e2)))
        rw [idx_pos e2] at HP2'
        have g1 : decide ((0 : Int) ≤ (Tb.pos ((ns.take j).map (pickC t)) nm : Int)) = true := decide_eq_true (by omega)
        generalize Tb.pos ((ns.take j).map (pickC t)) nm = q2 at *
        generalize Tb.pos t.cols nm = q at *
        clear hstc hstv hdr HEN HAN hdl hvl HGDJ e1 e2 hbc
        go_wp2_with fail
        refine (HP1.out).mono ?_
        rintro e w3 ⟨rfl, hb3⟩
        have z0 := (HM.out.two.next hb3).c0
        go_wp2_with fail
        refine (HP2'.out _ hb3).mono ?_
        rintro e w4 ⟨rfl, hb4⟩
        go_wp2_with fail
        go_ret
        exact ⟨by rw [HF.out]; rfl, (below_then hbw (below_then hb3 hb4)).mono hBw, fun h => by have := HF.out; omega⟩
      · have HF := Lib.hid (HEN.out.trans ((if_neg (by simp [e1])).trans (if_neg e2)))
        rw [idx_neg e2] at HP2'
        have HAN := Lib.hid (HAN.out e1 e2)
        have hgok := HGDJ.out e1
        obtain ⟨da2, dc2, hform2⟩ := vrow_form HM.out.vro
        rw [hvl] at hform2
        subst hform2
        obtain ⟨g, gcc, hcv⟩ : ∃ g gcc, ca = some ⟨g, 0, none⟩ ∧ cc = gcc := by
          rcases HO.out.gro.2 with ⟨e, h0⟩ | ⟨g, cap, cur, e, _⟩
          · omega
          · injection e with x1 x2 x3
            exact ⟨g, cap, x1, x3⟩
        obtain ⟨rfl, rfl⟩ := hcv
        obtain ⟨gd, gdc, hdv⟩ : ∃ gd gdc, da = some ⟨gd, 0, none⟩ ∧ dc = gdc := by
          rcases HO.out.vro.2 with ⟨e, h0⟩ | ⟨g, cap, cur, e, _⟩
          · have := HO.out.len; have := HLEN.out; omega
          · injection e with x1 x2 x3
            exact ⟨g, cap, x1, x3⟩
        obtain ⟨rfl, rfl⟩ := hdv
        obtain ⟨u, hu1, hu2⟩ := hOr.row (Tb.pos t.cols nm) (by have := HLEN.out; omega)
        obtain ⟨ua, uc, rfl, -, -⟩ := cRow_cls hu2
        have hpv : pickV t vs nm = .slice ua (t.data.getD (Tb.pos t.cols nm) []).length uc := by
          unfold pickV; simp only [List.getD, hu1, Option.getD_some]
        have hcl := hOr.tbl
        obtain ⟨_, _, _, _, _, _, htb⟩ := hcl
        have hgls : Gls wr wr.heap.size (some ⟨g, 0, none⟩) t.cols := (HTB.out.next hbw).gls
        obtain ⟨bx, ox, hbx, hblt, hcc⟩ := hgls (fun e => by rw [e] at hql; simp at hql)
        have hbx := Option.some.inj hbx
        injection hbx with hb1 hb2
        subst hb1 hb2
        obtain ⟨k0, k1⟩ := hcc (Tb.pos t.cols nm) hql
        rw [Nat.zero_add] at k0 k1
        have kv := (vrow_at hOr.vro (Tb.pos t.cols nm) (by have := HO.out.len; have := HLEN.out; omega)).1.trans hu1
        have hgdlt := (hOr.vro.lt gd rfl).2
        rw [hpv] at hstv
        have hstc2 : (ns.take (j + 1)).map (pickC t) = (ns.take j).map (pickC t) ++ [t.cols.getD (Tb.pos t.cols nm) Tb.nulC] := hstc
        have hj7 : j + 1 ≤ 6 := by have := HAN.out.le; simp at this; omega
        generalize hcol : t.cols.getD (Tb.pos t.cols nm) Tb.nulC = col at *
        generalize (t.data.getD (Tb.pos t.cols nm) []).length = rl at *
        have HSTC := Lib.hid hstc2
        have HSTV := Lib.hid hstv
        have HTWr := Lib.hid hOr.two
        generalize Tb.pos t.cols nm = q at *
        have hqI : (q : Int) < (t.cols.length : Int) := by omega
        have hqD : (q : Int) < (t.data.length : Int) := by have := HLEN.out; omega
        have K0 := Lib.hid k0
        have K1 := Lib.hid k1
        have KV := Lib.hid kv
        have HOr := Lib.hid hOr
        have HU1 := Lib.hid hu1
        have hqv : q < vs.length := by have := HO.out.len; have := HLEN.out; omega
        have HUR := Lib.hid hu2
        have hBg : w.heap.size ≤ H := HM.out.ge
        clear k0 k1 kv hOr hstc hstv hstc2 hdr HEN hdl hvl hpv hu1 hu2 hcc hgls htb e1 e2 hbc HGDJ hcol
        obtain ⟨cn_, ck_⟩ := col
        go_wp2_with fail
        refine (HP1.out).mono ?_
        rintro e w3 ⟨rfl, hb3⟩
        have z0 := (HM.out.two.next hb3).c0
        go_wp2_with fail
        refine (HP2'.out _ hb3).mono ?_
        rintro e w4 ⟨rfl, hb4⟩
        have hb34 := below_then hb3 hb4
        have hbw4 := below_then hbw hb34
        have HM4 := Lib.hid (HM.out.move hb34)
        have HO4 := Lib.hid (HOr.out.move hb34)
        have a0 := HO4.out.two.c0
        have a1 := HM4.out.two.c0
        have b0' := (hb34.cell (p := ⟨g, q * 2, none⟩) hblt).trans K0.out
        have b1' := (hb34.cell (p := ⟨g, q * 2 + 1, none⟩) hblt).trans K1.out
        have hal4 : Below w4.heap.size w4 (w4.alloc (.cells #[.string (str cn_), .int .i64 ck_] 27)) := (Below.refl _ _).alloc (Nat.le_refl _) _
        have a2 := (HM4.out.move hal4).two.c0
        have HGR := Lib.hid (HM4.out.gro.below hal4)
        have hgl : (((ns.take j).map (pickC t)).length + 1) * 24 ≤ 140737488355328 := by simp; omega
        have hbs : w.heap.size ≤ (w4.alloc (.cells #[.string (str cn_), .int .i64 ck_] 27)).heap.size := by have := hbw4.size; simp; omega
        have HG1 := Lib.hid (gls_one (w := w4.alloc (.cells #[.string (str cn_), .int .i64 ck_] 27)) (b := w4.heap.size) (c := ⟨cn_, ck_⟩) (World.cell?_alloc_new _ _ _ _) (World.cell?_alloc_new _ _ _ _) (by simp))
        have HPC := Lib.hid (fun w5 v' o => Mk.col (w := w4) (w4 := w5) (v' := v') (c := ⟨cn_, ck_⟩) (o := o) HM4.out)
        have hgg4 := HM4.out.gG
        have hll : ((ns.take j).map (pickC t)).length = j := by simp; omega
        have HLL := Lib.hid hll
        clear z0 y0 hll
        go_upto_region 10 with fail
        go_cut [26] from 27 to 38 (fun s26 wx => ∃ (a5 : Option Addr) (c5 : Nat), Hid (Mk wx w.heap.size H ((ns.take (j + 1)).map (pickC t)) ((ns.take j).map (pickV t vs)) (.slice a5 (j + 1) c5) (.slice da2 j dc2)) ∧ Hid (Below w.heap.size w wx))
        case first =>
          go_region_law (first
            | (refine step_append_gls rfl (.tmp 28) (.tmp 36) rfl w.heap.size _ ((ns.take j).map (pickC t)) rfl (GRow.below HGR.out (by first | exact Below.refl _ _ | exact (Below.refl _ _).drew)) (some ⟨w4.heap.size, 0, none⟩) 1 1 [⟨cn_, ck_⟩] rfl rfl (fun h => by cases h) (HG1.out.next at2_firm (by first | exact Below.refl _ _ | exact (Below.refl _ _).drew)) hgl hbs ?_; intro v' w5 hr5 hb5 hf5 hs5; obtain ⟨a5, c5, hv5⟩ := grow_form1 hr5; rw [HLL.out] at hv5; subst hv5; have o5 := HPC.out _ _ _ hr5 hf5; have t5 := two_far (HM4.out.move hal4).two hgg4 hf5; have x5 := t5.c0; have k5 := t5.free 0))
          all_goals
            go_wp2_with fail
            go_meet
            exact ⟨a5, c5, Lib.hid (by rw [HSTC.out]; exact o5), Lib.hid ((((hbw4.alloc hbw4.size _).drew).trans hb5).setCell (p := ⟨H, 0, none⟩) hBg _)⟩
        case rest =>
          obtain ⟨a5, c5, HM5, HB5⟩ := hcut
          have HO5 := Lib.hid (HO.out.move HB5.out)
          have d0 := HM5.out.two.c1
          have d1 := HO5.out.two.c1
          have kvc := (vrow_at HO5.out.vro q hqv).1.trans HU1.out
          have hal5 : Below wc.heap.size wc (wc.alloc (.cells #[.slice ua rl uc] 34)) := (Below.refl _ _).alloc (Nat.le_refl _) _
          have d2 := (HM5.out.move hal5).two.c1
          have HVR5 := Lib.hid (HM5.out.vro.below hal5)
          have hvl5 : (((ns.take j).map (pickV t vs)).length + 1) * 24 ≤ 140737488355328 := by simp; omega
          have hbs5 : w.heap.size ≤ (wc.alloc (.cells #[.slice ua rl uc] 34)).heap.size := by have := HB5.out.size; simp; omega
          have HPV := Lib.hid (fun w5 v' u o => Mk.val (w := wc) (w4 := w5) (v' := v') (u := u) (o := o) HM5.out)
          have hgg5 := HM5.out.gD
          have HLV := Lib.hid (show ((ns.take j).map (pickV t vs)).length = j by simp; omega)
          clear a0 a1 a2 b0' b1' HM4 HO4 HGR HG1 HPC hgg4 hal4
          go_wp2_with fail
          go_region_law (first
            | (refine step_append_v rfl (.tmp 40) (.tmp 48) rfl w.heap.size _ ((ns.take j).map (pickV t vs)) rfl (VRow.below HVR5.out (by first | exact Below.refl _ _ | exact (Below.refl _ _).drew)) wc.heap.size (.slice ua rl uc) rfl (by simp) rfl hvl5 hbs5 ?_; intro v' w6 hr6 hb6 hf6 hs6; obtain ⟨a6, c6, hv6⟩ := vrow_form1 hr6; rw [HLV.out] at hv6; subst hv6; have o6 := HPV.out _ _ _ _ hr6 hf6; have t6 := two_far (HM5.out.move hal5).two hgg5 hf6; have x6 := t6.c1; have k6 := t6.free 1))
          all_goals
            go_wp2_with fail
            exact ⟨⟨j + 1, _, _, by omega, by go_num, Lib.hid (by rw [HSTV.out]; exact o6), (((HB5.out.alloc HB5.out.size _).drew).trans hb6).setCell (p := ⟨H, 1, none⟩) hBg _, HF, HAN⟩, by simp [intOf]; omega⟩
    · obtain rfl : j = ns.length := by omega
      have hE : E = 0 := by rw [HE.out, List.drop_length]; rfl
      have HEZ := Lib.hid hE
      have hOr := HO.out.move hbw
      obtain ⟨ga, gc, hf1⟩ := grow_form HM.out.gro
      obtain ⟨da2, dc2, hf2⟩ := vrow_form HM.out.vro
      subst hf1 hf2
      have q0 := HM.out.two.c0
      have q1 := HM.out.two.c1
      have s0 := hOr.two
      have s1 := s0.s0 (.slice ga ((ns.take ns.length).map (pickC t)).length gc)
      have s2 := s1.s1 (.slice da2 ((ns.take ns.length).map (pickV t vs)).length dc2)
      have x0 := s0.c0
      have x1 := s1.c1
      have f0 := s0.free 0
      have f1 := s1.free 1
      have hGw : G < w.heap.size := HO.out.lt
      have HOUT : Hid (Out ((wr.setCell ⟨G, 0, none⟩ (.slice ga ((ns.take ns.length).map (pickC t)).length gc)).setCell ⟨G, 1, none⟩ (.slice da2 ((ns.take ns.length).map (pickV t vs)).length dc2)) B G R (.slice ga ((ns.take ns.length).map (pickC t)).length gc) (.slice da2 ((ns.take ns.length).map (pickV t vs)).length dc2) ((ns.take ns.length).map (pickV t vs))) := by
        have same : ∀ k, k ≠ G → ((wr.setCell ⟨G, 0, none⟩ (.slice ga ((ns.take ns.length).map (pickC t)).length gc)).setCell ⟨G, 1, none⟩ (.slice da2 ((ns.take ns.length).map (pickV t vs)).length dc2)).heap[k]? = wr.heap[k]? := fun k hk => by rw [heap_set _ _ _ _ hk, heap_set _ _ _ _ hk]
        have hgr := row_le (row_move HM.out.gro (fun k hk => same k (by have := (HM.out.gro.lt k hk).1; omega))) hBw
        have hvr := row_le (row_move HM.out.vro (fun k hk => same k (by have := (HM.out.vro.lt k hk).1; omega))) hBw
        rw [HPROJ.out]
        refine Lib.hid ⟨s2, by simpa [GRow] using hgr, hvr, by simp, ?_, ?_⟩
        · intro i hi
          simp only [List.length_map] at hi
          have hhas := HAS.out.1 ns[i] (by simp)
          have hq : Tb.pos t.cols ns[i] < t.cols.length := hhas
          have hn : ns.getD i [] = ns[i] := by simp [List.getD, List.getElem?_eq_getElem hi]
          obtain ⟨ai, ci, k1, k2, k3⟩ := hOr.out.row (Tb.pos t.cols ns[i]) (by have := HLEN.out; omega)
          have e1 : (ns.map fun n => t.data.getD (Tb.pos t.cols n) []).getD i [] = t.data.getD (Tb.pos t.cols ns[i]) [] := by simp [List.getD, hi]
          show ∃ ai ci, _ = some (Value.slice ai ((ns.map fun n => t.data.getD (Tb.pos t.cols n) []).getD i []).length ci) ∧ RowIn _ _ ai ci ((ns.map fun n => t.data.getD (Tb.pos t.cols n) []).getD i []) ∧ _
          rw [e1]
          have hkG : ∀ {b}, KindC wr b → b ≠ G := fun {b} hb e => by
            obtain ⟨c1, z1, h1⟩ := hb
            have h2 := s0
            unfold Two at h2
            rw [e, h2] at h1
            injection h1 with h1
            injection h1 with _ h3 _
            exact absurd h3 (by decide)
          refine ⟨ai, ci, ?_, k2.same (fun b o s e => same b (hkG (k3 b o s e).2)) (by simp), fun b o s e => ⟨(k3 b o s e).1, ?_⟩⟩
          · rw [List.take_length, List.getElem?_map, List.getElem?_eq_getElem hi]
            simp only [Option.map_some]
            congr 1
            unfold pickV
            simp only [List.getD, k1, Option.getD_some]
          · obtain ⟨c1, z1, h1⟩ := (k3 b o s e).2
            exact ⟨c1, z1, (same b (hkG ⟨c1, z1, h1⟩)).trans h1⟩
        · intro c hc
          obtain ⟨n, hn, rfl⟩ := List.mem_map.1 hc
          exact HGD.out n (HAS.out.1 n (by simpa using hn))
      have HBF := Lib.hid (((hbw.mono hBw).setCell (p := ⟨G, 0, none⟩) HO.out.ge (.slice ga ((ns.take ns.length).map (pickC t)).length gc)).setCell (p := ⟨G, 1, none⟩) HO.out.ge (.slice da2 ((ns.take ns.length).map (pickV t vs)).length dc2))
      generalize ((ns.take ns.length).map (pickC t)).length = l1 at *
      generalize ((ns.take ns.length).map (pickV t vs)).length = l2 at *
      clear s0 s1 s2 hE hOr
      go_wp2_with fail
      go_ret
      exact ⟨by rw [HEZ.out]; rfl, HBF.out, fun _ => ⟨_, _, _, HOUT.out⟩⟩
end Go.Proofs.Ytnjnalehfhfefaa
