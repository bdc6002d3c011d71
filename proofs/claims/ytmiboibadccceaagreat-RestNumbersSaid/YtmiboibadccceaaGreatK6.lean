/- TW5, TSame, TLess, TR1, TR2, TAux, TR4, TR5, FPlain, FW1, BRow, VaryAll, FW2, FW3, FW4, FW5, FW6, FR1. -/
import Derived.Maps.Own
import Derived.Maps.OwnOps
import Derived.Maps.OwnSet
import Derived.Maps.Views
import Derived.BigQuiet
import Derived.Lib.AppendStr
import Derived.Laws.OwnMore
import Derived.Test.YtmiboibadccceaaGreatK5
/- The walk of dict.Of. -/
namespace Go.Proofs.YtmiboibadccceaaGreat
open Go.RowKit Go.Maps Go.WideMaps
set_option linter.unusedVariables false

def ofR (l : List (List UInt8)) : List (List UInt8) × List Nat × Nat :=
  if fitR l ≠ 0 then ([], [], fitR l) else (T.bk l, l.map (T.plc (T.bk l)), 0)
def OfPost (r : List (List UInt8) × List Nat × Nat) (w : World) (e : Ending) (w' : World) : Prop :=
  ∃ a c a2 c2, e = .returned (.tuple #[.slice a r.1.length c, .slice a2 r.2.1.length c2, .int .i64 r.2.2]) ∧ Txts w' w'.heap.size a r.1 ∧ Nums w' w'.heap.size a2 r.2.1 ∧ Below w.heap.size w w'

theorem law_str : Keyed Tryz.prog 9 := string_keyed Tryz.underlying9
theorem zero_u64 (w : World) : (zeroValue 46).run Tryz.prog w = .ok (.int .u64 0) w := by kernel_rfl
theorem key_str (x : List UInt8) (h : x.length ≤ maxLen) : keyOf Tryz.prog 9 (.string (str x)) = some (.string x) := by
  have := keyOf_string_mk (P := Tryz.prog) Tryz.underlying9 (s := str x) (by rw [str_size]; exact h)
  rw [str_data] at this; exact this
theorem wf_u64 (n : Nat) (h : n < 18446744073709551616) : (Lit.int .u64 (n : Int)).wf = true := by
  simp [Lit.wf, IntKind.min, IntKind.max, IntKind.signed, IntKind.bits]; omega
theorem ownsMap_keep {H : Type} {P : Program} {k : TypeId} {R : Value → Option (DataW H × List MemPlace)} {w w' : World} {b n : Nat} {D : DataW H} (h : w.ownsMap P k R b n D) (e : w'.heap[b]? = w.heap[b]?) : w'.ownsMap P k R b n D := by
  obtain ⟨es, clock, hb, F, hs, hD⟩ := h
  exact ⟨es, clock, e.trans hb, F, hs, hD⟩
theorem ownsMap_lt {H : Type} {P : Program} {k : TypeId} {R : Value → Option (DataW H × List MemPlace)} {w : World} {b n : Nat} {D : DataW H} (h : w.ownsMap P k R b n D) : b < w.heap.size := by
  obtain ⟨es, clock, hb, F, hs, hD⟩ := h
  exact lt_of_block hb

/-- so far each text of the book has its place -/
def Has (b : List (List UInt8)) (D : DataW Unit) (k : Nat) : Prop := ∀ i, i < k → D.atKey (.string (b.getD i [])) (.lit (.int .u64 0)) = .lit (.int .u64 (i : Int))
theorem Has.put {b : List (List UInt8)} {D : DataW Unit} {k : Nat} (h : Has b D k) (hD : Maps.IsMap D) (hb : T.Up b) (hk : k < b.length) : Has b (D.put (.string (b.getD k [])) (.lit (.int .u64 (k : Int)))) (k + 1) := by
  intro i hi
  by_cases e : i = k
  · subst e
    exact Maps.atKey_put_same hD (by trivial) _ _
  · rw [Maps.atKey_put_other (fun h2 => ?_)]
    · exact h i (by omega)
    · injection h2 with h2
      have h3 : b[i]'(by omega) = b[k] := by simpa [List.getD, List.getElem?_eq_getElem hk, List.getElem?_eq_getElem (show i < b.length by omega)] using h2
      exact e (T.up_inj hb (by omega) hk h3)
theorem Has.at {b : List (List UInt8)} {D : DataW Unit} (h : Has b D b.length) (hb : T.Up b) {x : List UInt8} (hx : x ∈ b) : D.atKey (.string x) (.lit (.int .u64 0)) = .lit (.int .u64 ((T.plc b x : Nat) : Int)) := by
  obtain ⟨h1, h2⟩ := T.plc_mem hb hx
  have := h _ h1
  rw [h2] at this
  exact this

theorem fit_zero {l : List (List UInt8)} (h : fitR l = 0) : l.length ≤ 64 ∧ ∀ x ∈ l, x.length ≤ 16 := by
  unfold fitR at h
  rcases Classical.em (64 < l.length ∨ l.findIdx long < l.length) with hh | hh
  · rw [if_pos hh] at h; exact absurd h (by decide)
  · constructor
    · rcases Nat.lt_or_ge 64 l.length with k | k
      · exact absurd (Or.inl k) hh
      · exact k
    · intro x hx
      rcases Nat.lt_or_ge 16 x.length with k | k
      · exact absurd (Or.inr (List.findIdx_lt_length_of_exists ⟨x, hx, by simp [long, k]⟩)) hh
      · exact k
theorem nget_step (f : List UInt8 → Nat) (l : List (List UInt8)) (j : Nat) (hj : j < l.length) :
    ((l.take j).map f ++ List.replicate (l.length - j) 0).set j (f (l.getD j [])) = (l.take (j + 1)).map f ++ List.replicate (l.length - (j + 1)) 0 := by
  have hl : ((l.take j).map f).length = j := by simp; omega
  rw [List.set_append_right _ _ (by omega), hl, Nat.sub_self, show l.length - j = (l.length - (j + 1)) + 1 by omega, List.replicate_succ, List.set_cons_zero, ttake_succ l j hj, List.map_append, List.append_assoc]
  rfl
theorem nget_len (f : List UInt8 → Nat) (l : List (List UInt8)) (j : Nat) (hj : j ≤ l.length) : ((l.take j).map f ++ List.replicate (l.length - j) 0).length = l.length := by simp; omega

set_option maxHeartbeats 2000000 in
set_option maxRecDepth 100000 in
theorem dictOf_any (a : Option Addr) (c : Nat) (l : List (List UInt8)) (w : World) (hu : Txts w w.heap.size a l) :
    Calls Tryz.prog 32 #[.slice a l.length c] w (OfPost (ofR l) w) := by
  obtain ⟨i0, hi, hz0, hz1, hz2⟩ := info_parts info_u64
  have HF := Lib.hid (fit_any a c l w hu)
  unfold ofR
  by_cases hf : fitR l ≠ 0
  · rw [if_pos hf]
    generalize fitR l = er at *
    have g1 : ((er : Int) != 0) = true := by rw [bne_iff_ne]; omega
    clear hu
    go_enter Tryz.func32, Tryz.ntmps32
    go_wp2_with fail
    refine (HF.out).mono ?_
    rintro e w1 ⟨rfl, rfl⟩
    go_wp2_with fail
    go_ret3
    exact ⟨none, 0, none, 0, rfl, Txts.nil _ _ _, Nums.nil _ _ _, Below.refl _ _⟩
  rw [if_neg hf]
  have hf0 : fitR l = 0 := by omega
  rw [hf0] at HF
  obtain ⟨hl64, hlx⟩ := fit_zero hf0
  have HSO := Lib.hid (dsorted_any a c l w hl64 hu)
  have hup := T.bk_up l
  have HBM := Lib.hid (fun x => T.bk_mem l x)
  have hblen : (T.bk l).length ≤ 64 := by
    have hsl : (l.mergeSort fun x y => decide (x ≤ y)).length = l.length := List.length_mergeSort l
    have : (T.bk l).length ≤ (l.mergeSort fun x y => decide (x ≤ y)).length := Lib.compact_length_le _
    omega
  have HBX := Lib.hid (fun k (h : k < (T.bk l).length) => show ((T.bk l).getD k []).length ≤ 16 from hlx _ ((T.bk_mem l _).1 (tgetD_mem _ k h)))
  have HLX := Lib.hid (fun k (h : k < l.length) => hlx _ (tgetD_mem l k h))
  have HLM := Lib.hid (fun k (h : k < l.length) => show l.getD k [] ∈ T.bk l from (T.bk_mem l _).2 (tgetD_mem l k h))
  have HU := Lib.hid hu
  have HUP := Lib.hid hup
  unfold SortPost at HSO
  generalize T.bk l = b at *
  have HST := Lib.hid (fun j h => nget_step (T.plc b) l j h)
  have HLN := Lib.hid (fun j h => nget_len (T.plc b) l j h)
  have HEND := Lib.hid (show (l.take l.length).map (T.plc b) ++ List.replicate (l.length - l.length) 0 = l.map (T.plc b) by rw [List.take_length, Nat.sub_self]; simp)
  have HML := Lib.hid (show (l.map (T.plc b)).length = l.length by simp)
  have HPB := Lib.hid (fun x => T.plc_le b x)
  have HPA := Lib.hid (fun (D : DataW Unit) (h : Has b D b.length) (x : List UInt8) (hx : x ∈ b) => h.at HUP.out hx)
  have hmm : ∀ (w : World) (n : Int), (Instr.makeMap 81 (some (.int .i64 n))).run Tryz.prog w = .ok (.map (some w.heap.size)) (w.alloc (.map #[] 0)) := fun _ _ => by kernel_rfl
  clear hf hf0 hlx hup hu
  go_enter Tryz.func32, Tryz.ntmps32
  go_wp2_with fail
  refine (HF.out).mono ?_
  rintro e w1 ⟨rfl, rfl⟩
  go_wp2_with fail
  refine (HSO.out).mono ?_
  rintro e w2 ⟨a2, c2, rfl, hrow, hb2⟩
  have HT2 := Lib.hid hrow.txts.1
  clear hrow
  have hm0 : (w2.alloc (.map #[] 0)).ownsMap Tryz.prog 9 (plainElem (H := Unit) Tryz.prog 46) w2.heap.size 0 (.map []) := World.ownsMap_made _ _ _ _
  have hbm : Below w2.heap.size w2 (w2.alloc (.map #[] 0)) := (Below.refl _ _).alloc (Nat.le_refl _) _
  go_wp2_with fail
  go_loopw [8, 9, 25] (fun _ _ i wr => ∃ (k : Nat) (D : DataW Unit), k ≤ b.length ∧ i = .int .i64 k ∧ wr.ownsMap Tryz.prog 9 (plainElem (H := Unit) Tryz.prog 46) w2.heap.size k D ∧ Hid (Has b D k) ∧ Below w2.heap.size w2 wr) (fun _ _ i _ => b.length - (intOf i).toNat)
  case atStart => exact ⟨0, .map [], by omega, rfl, hm0, Lib.hid (fun i hi => absurd hi (by omega)), hbm⟩
  case round =>
    obtain ⟨k, D, hk, rfl, hown, HHS, hbw⟩ := hrel
    by_cases hlt : k < b.length
    · obtain ⟨b1, off1, rfl, hb1l, hcc1⟩ := HT2.out (fun e => by rw [e] at hlt; simp at hlt)
      have cx := (hbw.cell (p := ⟨b1, off1 + k, none⟩) hb1l).trans (hcc1 k hlt)
      have hxl := HBX.out k hlt
      have HPU := Lib.hid (HHS.out.put hown.isMap HUP.out hlt)
      generalize b.getD k [] = x at *
      have hkey := key_str x (by unfold maxLen; omega)
      generalize str x = X at *
      have hkI : (k : Int) < (b.length : Int) := by omega
      have hwk : IntKind.u64.wrap (k : Int) = (k : Int) := by rw [IntKind.wrap_u64]; omega
      have HOWN := Lib.hid hown
      have HKEY := Lib.hid hkey
      have hwf := wf_u64 k (by omega)
      have HWF := Lib.hid hwf
      clear hcc1 hown hkey hwf
      go_wp2_with (at_mapUpdate; refine wpList_mapUpdate_own _ rfl (.tmp 30) (.tmp 31) (.tmp 33) 81 rfl 9 46 law_str Tryz.underlying81 _ w2.heap.size k _ rfl HOWN.out (by unfold maxLen; omega) _ _ _ rfl rfl HKEY.out _ [] (plainElem_int Tryz.underlying46 HWF.out) ?_)
      intro w5 hown5 hgrow5
      have hbw5 : Below w2.heap.size w2 w5 := hbw.grown hgrow5 hbw.size (fun j hj => by cases hj; exact Nat.le_refl _)
      have HOWN5 := Lib.hid hown5
      clear hown5 hgrow5
      go_wp2_with fail
      exact ⟨⟨k + 1, _, by omega, by go_num, HOWN5.out, HPU, hbw5⟩, by simp [intOf]; omega⟩
    · obtain rfl : k = b.length := by omega
      have HOWN := Lib.hid hown
      have HAT := Lib.hid (fun x hx => HPA.out D HHS.out x hx)
      have hMlt := ownsMap_lt hown
      clear hown HHS
      go_wp2_with (at_make; refine wpList_make_full _ rfl _ _ 22 rfl wr.heap.size 46 i0 (.int .u64 0) 1 Tryz.underlying22 hi hz0 hz1 .i64 .i64 _ _ l.length rfl rfl rfl rfl (by rw [hz2]; omega) (by unfold maxLen; omega) (Nat.le_refl _) ?_; intro w6 hown6 hgrow6)
      have hb6 : Below wr.heap.size wr w6 := (Below.refl _ _).grown hgrow6 (Nat.le_refl _) (fun k hk => by cases hk)
      have hblk := made_ublk hown6
      obtain ⟨g, hg⟩ : ∃ g, g = wr.heap.size := ⟨_, rfl⟩
      rw [← hg] at hblk ⊢
      have hgM : w2.heap.size < g := by omega
      have HOWN6 := Lib.hid (ownsMap_keep HOWN.out (hb6.block w2.heap.size hMlt))
      have hbw6 : Below w2.heap.size w2 w6 := hbw.trans (hb6.mono hbw.size)
      clear hg hown6 hgrow6
      go_wp2_with fail
      go_loopw [11, 12, 40] (fun _ _ i wr2 => ∃ j : Nat, j ≤ l.length ∧ i = .int .i64 j ∧ UBlk wr2 g ((l.take j).map (T.plc b) ++ List.replicate (l.length - j) 0) ∧ wr2.ownsMap Tryz.prog 9 (plainElem (H := Unit) Tryz.prog 46) w2.heap.size b.length D ∧ Below w2.heap.size w2 wr2) (fun _ _ i _ => l.length - (intOf i).toNat)
      case atStart => exact ⟨0, by omega, rfl, by simpa using hblk, HOWN6.out, hbw6⟩
      case round =>
        obtain ⟨j, hj, rfl, hub, hom, hbw2⟩ := hrel
        by_cases hlt : j < l.length
        · obtain ⟨b1, off1, rfl, hb1l, hcc1⟩ := HU.out (fun e => by rw [e] at hlt; simp at hlt)
          have cx := (hbw2.cell (p := ⟨b1, off1 + j, none⟩) (show b1 < w2.heap.size by have := hb2.size; omega)).trans ((hb2.cell (p := ⟨b1, off1 + j, none⟩) hb1l).trans (hcc1 j hlt))
          have hxl := HLX.out j hlt
          have hxm := HLM.out j hlt
          have HS := Lib.hid (HST.out j hlt)
          have hln := HLN.out j hj
          generalize l.getD j [] = x at *
          have hkey := key_str x (by unfold maxLen; omega)
          have hat0 := HAT.out x hxm
          have hpb := HPB.out x
          generalize T.plc b x = p at *
          generalize (l.take j).map (T.plc b) ++ List.replicate (l.length - j) 0 = acc at *
          generalize str x = X at *
          have hjI : (j : Int) < (l.length : Int) := by omega
          have u1 := hub.cell j (by omega)
          have u2 := hub.free j
          have HUB2 := Lib.hid (hub.put j p)
          generalize acc.getD j 0 = oz at *
          have HOM := Lib.hid hom
          have HKEY := Lib.hid hkey
          have HA0 := Lib.hid hat0
          have HKP := Lib.hid (show (wr.setCell ⟨g, j, none⟩ (.int .u64 (p : Int))).ownsMap Tryz.prog 9 (plainElem (H := Unit) Tryz.prog 46) w2.heap.size b.length D from ownsMap_keep hom (by
            have hne : ¬ g = w2.heap.size := by omega
            simp [World.setCell, Array.getElem?_modify, hne]))
          clear hcc1 hom hkey hat0 hub hln
          go_wp2_with (at_lookup; refine wpList_lookup_own_int _ rfl (.tmp 47) (.tmp 48) 81 rfl 9 46 .u64 law_str Tryz.underlying81 Tryz.underlying46 (zero_u64 _) w2.heap.size b.length D rfl HOM.out _ _ rfl HKEY.out ?_)
          intro cv hat hwc
          have hcp : cv = (p : Int) := by
            have h1 := HA0.out
            rw [hat] at h1
            injection h1 with h1
            injection h1
          subst hcp
          clear hat hwc
          go_wp2_with fail
          exact ⟨⟨j + 1, by omega, by go_num, by rw [← HS.out]; exact HUB2.out, HKP.out, hbw2.setCell (p := ⟨g, j, none⟩) (show w2.heap.size ≤ g by omega) _⟩, by simp [intOf]; omega⟩
        · obtain rfl : j = l.length := by omega
          rw [HEND.out] at hub
          have HNM := Lib.hid hub.nums
          have HTF := Lib.hid (HT2.out.next hbw2)
          clear hub hom
          go_wp2_with fail
          go_ret3
          exact ⟨a2, c2, some ⟨g, 0, none⟩, l.length, by rw [HML.out]; rfl, HTF.out, HNM.out, below_then hb2 hbw2⟩
end Go.Proofs.YtmiboibadccceaaGreat
/- The walks of hypostyleref.SameTexts, hypostylelaw.texts. -/
namespace Go.Proofs.YtmiboibadccceaaGreat
open Go.RowKit
set_option linter.unusedVariables false

theorem ttake_eq_succ (l m : List (List UInt8)) (k : Nat) (hk : k < l.length) (hk' : k < m.length) (h : l.take k = m.take k) (hq : l.getD k [] = m.getD k []) : l.take (k + 1) = m.take (k + 1) := by
  rw [ttake_succ l k hk, ttake_succ m k hk', h, hq]

set_option maxHeartbeats 400000 in
theorem tsame_len (a a' : Option Addr) (n m c c' : Nat) (w : World) (h : ((n : Int) != (m : Int)) = true) :
    Calls Tryz.prog 27 #[.slice a n c, .slice a' m c'] w (BoolPost false w) := by
  go_enter Tryz.func27, Tryz.ntmps27
  go_wp2_with fail
  go_ret
  exact ⟨rfl, Below.refl _ _⟩

set_option maxHeartbeats 1000000 in
theorem tsame_in (a a' : Option Addr) (c c' : Nat) (l m : List (List UInt8)) (w : World) (B : Nat) (hlm : l.length = m.length) (hl : l.length < 9223372036854775807) (h1 : Txts w B a l) (h2 : Txts w B a' m) :
    Calls Tryz.prog 27 #[.slice a l.length c, .slice a' m.length c'] w (BoolPost (decide (l = m)) w) := by
  rw [← hlm]
  have H1 := Lib.hid h1
  have H2 := Lib.hid h2
  have HL := Lib.hid hlm
  clear h1 h2 hlm
  go_enter Tryz.func27, Tryz.ntmps27
  go_wp2_with fail
  go_loopw [5] (fun i wr => ∃ k d : Nat, k ≤ l.length ∧ i = .int .i64 k ∧ wr = w.drewN d ∧ Hid (l.take k = m.take k)) (fun i _ => l.length - (intOf i).toNat)
  case atStart => exact ⟨0, 0, by omega, rfl, rfl, Lib.hid (by simp)⟩
  case round =>
    obtain ⟨k, d, hk, rfl, rfl, HK⟩ := hrel
    by_cases hlt : k < l.length
    · have hltm : k < m.length := by rw [← HL.out]; exact hlt
      obtain ⟨b1, o1, rfl, _, hc1⟩ := H1.out (fun e => by rw [e] at hlt; simp at hlt)
      obtain ⟨b2, o2, rfl, _, hc2⟩ := H2.out (fun e => by rw [e] at hltm; simp at hltm)
      have c1 := hc1 k hlt
      have c2 := hc2 k hltm
      have HT := Lib.hid (fun h => ttake_eq_succ l m k hlt hltm HK.out h)
      have HNE := Lib.hid (fun (h : l.getD k [] ≠ m.getD k []) => show ¬ l = m from fun e => h (by rw [e]))
      have hte := tl_eq (l.getD k []) (m.getD k [])
      generalize l.getD k [] = x at *
      generalize m.getD k [] = y at *
      generalize str x = X at *
      generalize str y = Y at *
      have hkI : (k : Int) < (l.length : Int) := by omega
      clear hc1 hc2
      by_cases hq : x = y
      · rw [decide_eq_true hq] at hte
        have hte2 : (X.toList != Y.toList) = false := by unfold bne; rw [hte]; rfl
        have HT2 := Lib.hid (HT.out hq)
        clear hq
        go_wp2_with fail
        go_quiet (fail)
        go_wp2_with fail
        exact ⟨⟨k + 1, d + nq, by omega, by go_num, rfl, HT2⟩, by simp [intOf]; omega⟩
      · rw [decide_eq_false hq] at hte
        have hte2 : (X.toList != Y.toList) = true := by unfold bne; rw [hte]; rfl
        have HN2 := Lib.hid (HNE.out hq)
        clear hq
        go_wp2_with fail
        go_quiet (fail)
        go_wp2_with fail
        go_ret
        exact ⟨by rw [decide_eq_false HN2.out]; rfl, below_drewN (below_drewN (Below.refl _ _) _) _⟩
    · have HE := Lib.hid (show l = m by
        have h := HK.out
        rw [List.take_of_length_le (by omega), List.take_of_length_le (by have := HL.out; omega)] at h; exact h)
      go_wp2_with fail
      go_ret
      exact ⟨by rw [decide_eq_true HE.out]; rfl, below_drewN (Below.refl _ _) _⟩

theorem tsame_any (a a' : Option Addr) (c c' : Nat) (l m : List (List UInt8)) (w : World) (B : Nat) (h1 : Txts w B a l) (h2 : Txts w B a' m) (hl : l.length < 9223372036854775807) :
    Calls Tryz.prog 27 #[.slice a l.length c, .slice a' m.length c'] w (BoolPost (decide (l = m)) w) := by
  by_cases hlm : l.length = m.length
  · exact tsame_in a a' c c' l m w B hlm hl h1 h2
  · rw [decide_eq_false (fun e => hlm (by rw [e]))]
    exact tsame_len a a' _ _ c c' w (by simpa using (by omega : ¬ (l.length : Int) = (m.length : Int)))

set_option maxHeartbeats 400000 in
theorem texts_any (v : Value) (w : World) :
    Calls Tryz.prog 46 #[v] w fun e w' => e = .returned v ∧ w = w' := by
  go_enter Tryz.func46, Tryz.ntmps46
  go_wp2_with fail
  go_ret
  exact ⟨rfl, rfl⟩
end Go.Proofs.YtmiboibadccceaaGreat
/- The walk of hypostyleref.TextLess. -/
namespace Go.Proofs.YtmiboibadccceaaGreat
open Go.RowKit
set_option linter.unusedVariables false

theorem tcons_ne {x y : UInt8} {s t : List UInt8} (h : x ≠ y) : decide (x :: s < y :: t) = decide (x < y) := by
  rw [decide_eq_decide, List.cons_lt_cons_iff]
  exact ⟨fun hh => hh.resolve_right fun e => h e.1, Or.inl⟩
theorem tcons_eq {x y : UInt8} {s t : List UInt8} (h : x = y) : decide (x :: s < y :: t) = decide (s < t) := by
  subst h
  rw [decide_eq_decide, List.cons_lt_cons_iff]
  exact ⟨fun hh => by
    rcases hh with hh | ⟨_, hh⟩
    · exact absurd hh (UInt8.lt_irrefl x)
    · exact hh, fun hh => Or.inr ⟨rfl, hh⟩⟩
theorem tnil_left (t : List UInt8) : decide ([] < t) = decide (0 < t.length) := by
  rw [decide_eq_decide]
  cases t with
  | nil => simp
  | cons x t => simp
theorem tnil_right (s : List UInt8) : decide (s < []) = false := by
  rw [decide_eq_false_iff_not]; exact List.not_lt_nil s

set_option maxHeartbeats 1000000 in
set_option maxRecDepth 100000 in
theorem tless_core (x y : List UInt8) (X Y : ByteArray) (w : World) (hx : x.length ≤ 9223372036854775807) (hy : y.length ≤ 9223372036854775807) (hsx : X.size = x.length) (hsy : Y.size = y.length)
    (hxa : ∀ i (h : i < X.size) (h2 : i < x.length), X[i] = x[i]) (hya : ∀ i (h : i < Y.size) (h2 : i < y.length), Y[i] = y[i]) :
    Calls Tryz.prog 140 #[.string X, .string Y] w fun e w' => e = .returned (.bool (decide (x < y))) ∧ ∃ d, w' = w.drewN d := by
  have HXA := Lib.hid hxa
  have HYA := Lib.hid hya
  clear hxa hya
  obtain ⟨R, hR⟩ : ∃ R, R = decide (x < y) := ⟨_, rfl⟩
  have HD0 := Lib.hid (show R = decide (x.drop 0 < y.drop 0) by rw [hR]; rfl)
  rw [← hR]
  have HNE := Lib.hid (fun i (h : R = decide (x.drop i < y.drop i)) (h1 : i < x.length) (h2 : i < y.length) (hn : x[i] ≠ y[i]) => show R = decide (x[i].toNat < y[i].toNat) by
    rw [h, List.drop_eq_getElem_cons h1, List.drop_eq_getElem_cons h2, tcons_ne hn, decide_eq_decide]; exact UInt8.lt_iff_toNat_lt)
  have HEQ := Lib.hid (fun i (h : R = decide (x.drop i < y.drop i)) (h1 : i < x.length) (h2 : i < y.length) (hn : x[i] = y[i]) => show R = decide (x.drop (i + 1) < y.drop (i + 1)) by
    rw [h, List.drop_eq_getElem_cons h1, List.drop_eq_getElem_cons h2, tcons_eq hn])
  have HEX := Lib.hid (fun i (h : R = decide (x.drop i < y.drop i)) (h1 : i ≤ x.length) (h2 : i ≤ y.length) (hh : i = x.length ∨ i = y.length) => show R = decide (x.length < y.length) by
    rw [h]
    rcases hh with hh | hh
    · rw [hh, List.drop_length, tnil_left, List.length_drop, decide_eq_decide]; omega
    · rw [hh, List.drop_length, tnil_right]; exact (decide_eq_false (by omega)).symm)
  clear hR
  obtain ⟨n, hn⟩ : ∃ n, n = X.size := ⟨_, rfl⟩
  obtain ⟨m, hm⟩ : ∃ m, m = Y.size := ⟨_, rfl⟩
  have HN := Lib.hid hn
  have HM := Lib.hid hm
  have HSX := Lib.hid hsx
  have HSY := Lib.hid hsy
  have hX : X.size ≤ 9223372036854775807 := by omega
  have hY : Y.size ≤ 9223372036854775807 := by omega
  clear hn hm hsx hsy hx hy
  go_enter Tryz.func140, Tryz.ntmps140
  go_wp2_with fail
  go_loopw [5] (fun i wr => ∃ k d : Nat, k ≤ X.size ∧ k ≤ Y.size ∧ i = .int .i64 k ∧ wr = w.drewN d ∧ Hid (R = decide (x.drop k < y.drop k))) (fun i _ => X.size - (intOf i).toNat)
  case atStart => exact ⟨0, 0, by omega, by omega, rfl, rfl, HD0⟩
  case round =>
    obtain ⟨k, d, hk1, hk2, rfl, rfl, HJ⟩ := hrel
    by_cases hlt1 : k < X.size
    · by_cases hlt2 : k < Y.size
      · have h1 : k < x.length := by have := HSX.out; omega
        have h2 : k < y.length := by have := HSY.out; omega
        have ex := HXA.out k hlt1 h1
        have ey := HYA.out k hlt2 h2
        have hne := HNE.out k HJ.out h1 h2
        have heq := HEQ.out k HJ.out h1 h2
        generalize x[k] = p at *
        generalize y[k] = q at *
        have hk1I : (k : Int) < (X.size : Int) := by omega
        have hk2I : (k : Int) < (Y.size : Int) := by omega
        by_cases hpq : p = q
        · have HN1 := Lib.hid (heq hpq)
          have g1 : ((p.toNat : Int) != (q.toNat : Int)) = false := by subst hpq; simp
          have g2 : ((p.toNat) != (q.toNat)) = false := by subst hpq; simp
          clear hne heq hpq
          go_wp2_with fail
          go_quiet (fail)
          go_wp2_with fail
          exact ⟨⟨k + 1, d + nq, by omega, by omega, by go_num, by first | rfl | exact World.drewN_drewN _ _ _, HN1⟩, by simp [intOf]; omega⟩
        · have HN1 := Lib.hid (hne hpq)
          have hne2 : ¬ p.toNat = q.toNat := fun e => hpq (UInt8.toNat_inj.1 e)
          have g1 : ((p.toNat : Int) != (q.toNat : Int)) = true := by rw [bne_iff_ne]; omega
          clear hne heq hpq
          go_wp2_with fail
          go_quiet (fail)
          go_wp2_with fail
          go_quiet (fail)
          go_wp2_with fail
          go_ret
          exact ⟨by rw [HN1.out]; simp, _, by first | rfl | simp only [World.drewN_drewN] ; rfl⟩
      · have HE := Lib.hid (HEX.out k HJ.out (by have := HSX.out; omega) (by have := HSY.out; omega) (Or.inr (by have := HSY.out; omega)))
        have HE2 := Lib.hid (show R = decide (X.size < Y.size) by rw [HE.out, decide_eq_decide]; have := HSX.out; have := HSY.out; omega)
        have g1 : decide ((k : Int) < (X.size : Int)) = true := decide_eq_true (by omega)
        have g2 : decide ((k : Int) < (Y.size : Int)) = false := decide_eq_false (by omega)
        go_wp2_with fail
        go_ret
        exact ⟨by rw [HE2.out]; rfl, d, rfl⟩
    · have HE := Lib.hid (HEX.out k HJ.out (by have := HSX.out; omega) (by have := HSY.out; omega) (Or.inl (by have := HSX.out; omega)))
      have HE2 := Lib.hid (show R = decide (X.size < Y.size) by rw [HE.out, decide_eq_decide]; have := HSX.out; have := HSY.out; omega)
      have g1 : decide ((k : Int) < (X.size : Int)) = false := decide_eq_false (by omega)
      go_wp2_with fail
      go_ret
      exact ⟨by rw [HE2.out]; rfl, d, rfl⟩

theorem tless_any (x y : List UInt8) (w : World) (hx : x.length ≤ maxLen) (hy : y.length ≤ maxLen) :
    Calls Tryz.prog 140 #[.string (str x), .string (str y)] w fun e w' => e = .returned (.bool (decide (x < y))) ∧ ∃ d, w' = w.drewN d :=
  tless_core x y (str x) (str y) w (by unfold maxLen at hx; omega) (by unfold maxLen at hy; omega) (str_size x) (str_size y) (fun i h h2 => str_at x i h h2) (fun i h h2 => str_at y i h h2)
end Go.Proofs.YtmiboibadccceaaGreat
/- The walks of hypostyleref.TextLess, ManyTexts, BookCheck. -/
namespace Go.Proofs.YtmiboibadccceaaGreat
open Go.RowKit
set_option linter.unusedVariables false

set_option maxHeartbeats 1000000 in
set_option maxRecDepth 100000 in
theorem rcheck_any (a : Option Addr) (c : Nat) (l : List (List UInt8)) (w : World) (hm : l.length ≤ maxLen) (hu : Txts w w.heap.size a l) :
    Calls Tryz.prog 151 #[.slice a l.length c] w fun e w' => e = .returned (.int .i64 (bookR l : Nat)) ∧ ∃ d, w' = w.drewN d := by
  have HF := Lib.hid (many_any a c l w hm hu)
  have HU := Lib.hid hu
  by_cases hf : fitR l ≠ 0
  · have hf2 : fitR l = 2 := by
      unfold fitR at hf ⊢
      split
      · rfl
      · rename_i h; rw [if_neg h] at hf; exact absurd rfl hf
    have HR := Lib.hid (show bookR l = 2 by unfold bookR; rw [if_pos hf, hf2])
    rw [decide_eq_true hf] at HF
    clear hu hf hf2
    go_enter Tryz.func151, Tryz.ntmps151
    go_wp2_with fail
    refine (HF.out).mono ?_
    rintro e w1 ⟨rfl, rfl⟩
    go_wp2_with fail
    go_ret
    exact ⟨by rw [HR.out]; rfl, 0, rfl⟩
  have hf0 : fitR l = 0 := by omega
  rw [decide_eq_false hf] at HF
  have hfz : l.length ≤ 64 ∧ ∀ x ∈ l, x.length ≤ 16 := by
    unfold fitR at hf0
    rcases Classical.em (64 < l.length ∨ l.findIdx long < l.length) with hh | hh
    · rw [if_pos hh] at hf0; exact absurd hf0 (by decide)
    · constructor
      · rcases Nat.lt_or_ge 64 l.length with k | k
        · exact absurd (Or.inl k) hh
        · exact k
      · intro x hx
        rcases Nat.lt_or_ge 16 x.length with k | k
        · exact absurd (Or.inr (List.findIdx_lt_length_of_exists ⟨x, hx, by simp [long, k]⟩)) hh
        · exact k
  have hl := hfz.1
  have HLX := Lib.hid (fun j (hj : j < l.length) => hfz.2 _ (tgetD_mem l j hj))
  have HRB := Lib.hid (show bookR l = if rise l then 0 else 4 by unfold bookR; rw [if_neg hf])
  clear hf hf0 hu hfz
  go_enter Tryz.func151, Tryz.ntmps151
  go_wp2_with fail
  refine (HF.out).mono ?_
  rintro e w1 ⟨rfl, rfl⟩
  go_wp2_with fail
  go_loopw [3] (fun i wr => ∃ k : Nat, 1 ≤ k ∧ (k ≤ l.length ∨ k = 1) ∧ i = .int .i64 k ∧ Hid (Rise l k) ∧ Hid (∃ d, wr = w.drewN d)) (fun i _ => l.length + 1 - (intOf i).toNat)
  case atStart => exact ⟨1, by omega, Or.inr rfl, rfl, Lib.hid (fun i hi => absurd hi (by omega)), Lib.hid ⟨0, rfl⟩⟩
  case round =>
    obtain ⟨k, hk1, hk, rfl, HRI, HW⟩ := hrel
    by_cases hlt : k < l.length
    · obtain ⟨b, off, rfl, hb, hcc⟩ := HU.out (fun e => by rw [e] at hlt; simp at hlt)
      have ck : wr.cell? ⟨b, off + k, none⟩ = some (.string (str (l.getD k []))) := by
        obtain ⟨d, e⟩ := HW.out; rw [e]; exact hcc k hlt
      have cp : wr.cell? ⟨b, off + (k - 1), none⟩ = some (.string (str (l.getD (k - 1) []))) := by
        obtain ⟨d, e⟩ := HW.out; rw [e]; exact hcc (k - 1) (by omega)
      have HSU := Lib.hid (fun h => HRI.out.succ hk1 h)
      have HBD := Lib.hid (fun h => rise_bad (b := l) (i := k - 1) (by omega) h)
      rw [show k - 1 + 1 = k by omega] at HBD
      have hx1 := HLX.out k hlt
      have hx2 := HLX.out (k - 1) (by omega)
      have HTL := Lib.hid (fun W => tless_any (l.getD (k - 1) []) (l.getD k []) W (by unfold maxLen; omega) (by unfold maxLen; omega))
      generalize l.getD k [] = x at *
      generalize l.getD (k - 1) [] = y at *
      generalize str x = X at *
      generalize str y = Y at *
      have hi1 : IntKind.i64.wrap ((k : Int) - 1) = (k : Int) - 1 := by rw [IntKind.wrap_i64]; omega
      have hi2 : (0 : Int) ≤ (k : Int) - 1 := by omega
      have hi3 : ((k : Int) - 1).toNat = k - 1 := by omega
      have hi4 : (k : Int) - 1 < (l.length : Int) := by omega
      have hi5 : (k : Int) < (l.length : Int) := by omega
      have hi6 : (1 : Int) ≤ (k : Int) := by omega
      clear hcc
      by_cases hxy : y < x
      · rw [decide_eq_true hxy] at HTL
        have HN := Lib.hid (HSU.out hxy)
        clear hxy
        go_wp2_with fail
        go_quiet ((go_at_call 140; exact Calls.quiet_of (HTL.out _)))
        go_wp2_with fail
        exact ⟨⟨k + 1, by omega, Or.inl (by omega), by go_num, HN, by obtain ⟨d, e⟩ := HW.out; exact Lib.hid ⟨_, by rw [e, World.drewN_drewN]⟩⟩, by simp [intOf]; omega⟩
      · rw [decide_eq_false hxy] at HTL
        have HB4 := Lib.hid (show bookR l = 4 by rw [HRB.out, HBD.out hxy, if_neg (by simp)])
        clear hxy
        go_wp2_with fail
        go_quiet ((go_at_call 140; exact Calls.quiet_of (HTL.out _)))
        go_wp2_with fail
        go_ret
        obtain ⟨d, e⟩ := HW.out
        exact ⟨by rw [HB4.out]; rfl, _, by rw [e, World.drewN_drewN]⟩
    · have HB0 := Lib.hid (show bookR l = 0 by
        rw [HRB.out, if_pos]
        refine Rise.all ?_
        rcases hk with h | h
        · have e : k = l.length := by omega
          rw [← e]; exact HRI.out
        · intro i hi; omega)
      have hge : l.length ≤ k := by omega
      clear hk
      go_wp2_with fail
      go_ret
      exact ⟨by rw [HB0.out]; rfl, HW.out⟩
end Go.Proofs.YtmiboibadccceaaGreat
/- The walks of hypostyleref.Below, TextsOf. -/
namespace Go.Proofs.YtmiboibadccceaaGreat
open Go.RowKit
set_option linter.unusedVariables false

/-- below a text; or the same, if so -/
def pB (s : List UInt8) (same : Bool) (y : List UInt8) : Bool := decide (y < s) || (same && decide (y = s))
theorem count_step (p : List UInt8 → Bool) (b : List (List UInt8)) (k : Nat) (hk : k < b.length) : (b.take (k + 1)).countP p = (b.take k).countP p + if p (b.getD k []) then 1 else 0 := by
  rw [ttake_succ b k hk, List.countP_append]
  simp [List.countP_cons]
theorem book_long {b : List (List UInt8)} (h : bookR b = 0) : fitR b = 0 := by
  unfold bookR at h
  by_cases hf : fitR b ≠ 0
  · rw [if_pos hf] at h; exact h
  · omega
set_option maxHeartbeats 2000000 in
set_option maxRecDepth 100000 in
theorem rtexts_any (a : Option Addr) (c : Nat) (b : List (List UInt8)) (a2 : Option Addr) (c2 : Nat) (cs : List Nat) (w : World) (hm : b.length ≤ maxLen) (hm2 : cs.length ≤ maxLen) (hx : ∀ x ∈ cs, x < 18446744073709551616) (hu : Txts w w.heap.size a b) (hu2 : Nums w w.heap.size a2 cs) :
    Calls Tryz.prog 110 #[.slice a b.length c, .slice a2 cs.length c2] w (TextsPost (textsR b cs) w) := by
  have HCK := Lib.hid (rcheck_any a c b w hm hu)
  unfold maxLen at hm hm2
  unfold textsR
  by_cases hr : bookR b ≠ 0
  · rw [if_pos hr]
    generalize bookR b = er at *
    have g1 : ((er : Int) != 0) = true := by rw [bne_iff_ne]; omega
    clear hu hu2 hx
    go_enter Tryz.func110, Tryz.ntmps110
    go_wp2_with fail
    refine (HCK.out).mono ?_
    rintro e w1 ⟨rfl, d, rfl⟩
    go_wp2_with fail
    go_ret2
    exact TextsPost.none er (below_drewN (Below.refl _ _) _)
  rw [if_neg hr]
  have hr0 : bookR b = 0 := by omega
  rw [hr0] at HCK
  have hbl := (bookR_len hr0).1
  by_cases h64 : 64 < cs.length
  · rw [if_pos h64]
    have g2 : decide ((64 : Int) < (cs.length : Int)) = true := decide_eq_true (by omega)
    clear hu hu2 hx hr hr0
    go_enter Tryz.func110, Tryz.ntmps110
    go_wp2_with fail
    refine (HCK.out).mono ?_
    rintro e w1 ⟨rfl, d, rfl⟩
    go_wp2_with fail
    go_ret2
    exact TextsPost.none 2 (below_drewN (Below.refl _ _) _)
  rw [if_neg h64]
  have g2 : decide ((64 : Int) < (cs.length : Int)) = false := decide_eq_false (by omega)
  have HU := Lib.hid hu
  have HU2 := Lib.hid hu2
  have HX := Lib.hid (fun j (h : j < cs.length) => hx _ (getD_mem cs j h))
  obtain ⟨f, hf⟩ : ∃ f : Nat → List UInt8, f = fun c => b.getD c [] := ⟨_, rfl⟩
  have HFV := Lib.hid (fun c => show f c = b.getD c [] by rw [hf])
  rw [← hf]
  obtain ⟨R, hR⟩ : ∃ R, R = (if cs.any (fun c => decide (b.length ≤ c)) then (([] : List (List UInt8)), 3) else (cs.map f, 0)) := ⟨_, rfl⟩
  rw [← hR]
  have HBAD := Lib.hid (fun j (h : j < cs.length) (hj : b.length ≤ cs.getD j 0) => show R = ([], 3) by
    rw [hR, if_pos]; exact List.any_eq_true.2 ⟨_, getD_mem cs j h, by simpa using hj⟩)
  have HGOOD := Lib.hid (fun (h : Plcs cs b.length cs.length) => show R = (cs.map f, 0) by rw [hR, h.all, if_neg (by simp)])
  have HST := Lib.hid (fun j (h : j < cs.length) => show (cs.take (j + 1)).map f = (cs.take j).map f ++ [f (cs.getD j 0)] by
    rw [List.take_succ_eq_append_getElem h, List.map_append]; congr 1; simp [List.getD, List.getElem?_eq_getElem h])
  have HEND := Lib.hid (show (cs.take cs.length).map f = cs.map f by rw [List.take_length])
  have HLN := Lib.hid (fun j (h : j ≤ cs.length) => show ((cs.take j).map f).length = j by simp; omega)
  have hcl : cs.length ≤ 64 := by omega
  have hwl : IntKind.u64.wrap (b.length : Int) = (b.length : Int) := by rw [IntKind.wrap_u64]; omega
  clear hu hu2 hx hr hr0 hf hR h64
  go_enter Tryz.func110, Tryz.ntmps110
  go_wp2_with fail
  refine (HCK.out).mono ?_
  rintro e w1 ⟨rfl, d, rfl⟩
  go_wp2_with fail
  go_loopw [7, 8] (fun v i wr => ∃ j : Nat, j ≤ cs.length ∧ i = .int .i64 j ∧ Hid (Plcs cs b.length j) ∧ TRow w.heap.size ((cs.take j).map f) v wr ∧ Below w.heap.size w wr) (fun _ i _ => cs.length - (intOf i).toNat)
  case atStart => exact ⟨0, by omega, rfl, Lib.hid (fun i hi => absurd hi (by omega)), tnilRow _ _, below_drewN (Below.refl _ _) _⟩
  case round =>
    obtain ⟨j, hj, rfl, HPL, hrow, hbw⟩ := hrel
    by_cases hlt : j < cs.length
    · obtain ⟨bb, off, rfl, hbb, hcc⟩ := HU2.out (fun e => by rw [e] at hlt; simp at hlt)
      have cj := (hbw.cell (p := ⟨bb, off + j, none⟩) hbb).trans (hcc j hlt)
      have hxj := HX.out j hlt
      have HS := Lib.hid (HST.out j hlt)
      have hln := HLN.out j hj
      have HBJ := Lib.hid (HBAD.out j hlt)
      have HPS := Lib.hid (fun h => HPL.out.succ h)
      have hfv := HFV.out (cs.getD j 0)
      generalize cs.getD j 0 = x at *
      have hjI : (j : Int) < (cs.length : Int) := by omega
      clear hcc
      by_cases hge : b.length ≤ x
      · have g3 : decide (b.length ≤ x) = true := decide_eq_true hge
        have HB3 := Lib.hid (HBJ.out hge)
        clear hge hln hfv hrow
        go_wp2_with fail
        go_ret2
        rw [HB3.out]
        exact TextsPost.none 3 hbw
      · have g3 : decide (b.length ≤ x) = false := decide_eq_false hge
        have HPN := Lib.hid (HPS.out (by omega))
        have hxb : x < b.length := by omega
        have hxI : (x : Int) < (b.length : Int) := by omega
        obtain ⟨b1, off1, rfl, hb1l, hcc1⟩ := HU.out (fun e => by rw [e] at hxb; simp at hxb)
        have cx := (hbw.cell (p := ⟨b1, off1 + x, none⟩) hb1l).trans (hcc1 x hxb)
        rw [← hfv] at cx
        generalize (cs.take j).map f = acc at *
        generalize f x = y at *
        have hlb : (acc.length + 1) * 16 ≤ 140737488355328 := by omega
        have HROW := Lib.hid hrow
        have hsz2 := hbw.size
        have hb5 : w.heap.size ≤ (wr.alloc (.cells #[.string (str y)] 9)).heap.size := by simp; omega
        generalize hY : str y = Y at *
        clear hge hln hfv hcc1 hrow
        go_wp2_with (at_builtin; refine wpList_append_onet rfl (.tmp 31) (.tmp 39) rfl w.heap.size _ acc rfl (HROW.out.alloc_ _) wr.heap.size y rfl (by rw [hY]; exact World.cell?_alloc_new _ _ _ _) hlb hb5 ?_)
        intro v' w5 hown5 hb5w
        have hbw5 : Below w.heap.size w w5 := (hbw.alloc hbw.size _).trans hb5w
        go_wp2_with fail
        exact ⟨⟨j + 1, by omega, by go_num, HPN, by rw [HS.out]; exact hown5, hbw5⟩, by simp [intOf]; omega⟩
    · obtain rfl : j = cs.length := by omega
      rw [HEND.out] at hrow
      have HRS := Lib.hid (HGOOD.out HPL.out)
      obtain ⟨a', c', rfl, ht, _⟩ := tRow_txts hrow
      have HT := Lib.hid ht
      clear hrow ht
      go_wp2_with fail
      go_ret2
      rw [HRS.out]
      exact ⟨a', c', rfl, HT.out, hbw⟩
end Go.Proofs.YtmiboibadccceaaGreat
/- Out of TR3: count_idx, count_lt, count_le. -/
namespace Go.Proofs.YtmiboibadccceaaGreat
open Go.RowKit
set_option linter.unusedVariables false

theorem count_idx (p : List UInt8 → Bool) (b : List (List UInt8)) (hb : T.Up b) (hp : ∀ x y, x < y → p y = true → p x = true) : b.countP p = b.findIdx fun y => !p y := by
  induction b with
  | nil => rfl
  | cons x t ih =>
    obtain ⟨h1, h2⟩ := List.pairwise_cons.1 hb
    rw [List.findIdx_cons, List.countP_cons]
    by_cases h : p x = true
    · rw [h, ih h2]; simp
    · have hx : p x = false := by simpa using h
      rw [hx]
      have : t.countP p = 0 := by
        rw [List.countP_eq_zero]
        intro y hy hpy
        exact h (hp x y (h1 y hy) hpy)
      rw [this]; simp
theorem count_lt (s : List UInt8) {b : List (List UInt8)} (hb : T.Up b) : b.countP (pB s false) = T.plc b s := by
  rw [count_idx _ b hb (fun x y hxy h => by
    simp [pB] at h ⊢
    exact T.lt_tr hxy h)]
  unfold T.plc
  congr 1
  funext y
  simp [pB]
theorem count_le (s : List UInt8) {b : List (List UInt8)} (hb : T.Up b) : b.countP (pB s true) = T.plA b s := by
  rw [count_idx _ b hb (fun x y hxy h => by
    simp [pB] at h ⊢
    rcases h with h | h
    · exact Or.inl (T.lt_tr hxy h)
    · rw [← h]; exact Or.inl hxy)]
  unfold T.plA
  congr 1
  funext y
  rw [Bool.eq_iff_iff]
  simp only [pB, Bool.true_and, Bool.not_eq_true', Bool.or_eq_false_iff, decide_eq_false_iff_not, decide_eq_true_iff]
  constructor
  · rintro ⟨h1, h2⟩
    rcases T.tri y s with h | h | h
    · exact absurd h h1
    · exact absurd h h2
    · exact h
  · intro h
    exact ⟨fun h2 => T.lt_irr _ (T.lt_tr h h2), fun h2 => by rw [h2] at h; exact T.lt_irr _ h⟩
theorem fit_of {l : List (List UInt8)} (h1 : l.length ≤ 64) (h2 : ∀ x ∈ l, x.length ≤ 16) : fitR l = 0 := by
  unfold fitR
  rw [if_neg]
  rintro (h | h)
  · omega
  · obtain ⟨h3, h4⟩ := (⟨h, List.findIdx_getElem (w := h)⟩ : ∃ h : l.findIdx long < l.length, long (l[l.findIdx long]) = true)
    have := h2 _ (List.getElem_mem h3)
    simp [long] at h4
    omega
theorem bk_length (l : List (List UInt8)) : (T.bk l).length ≤ l.length := by
  have hsl : (l.mergeSort fun x y => decide (x ≤ y)).length = l.length := List.length_mergeSort l
  rw [← hsl]; exact Lib.compact_length_le _
theorem book_bk {l : List (List UInt8)} (h : fitR l = 0) : bookR (T.bk l) = 0 := by
  obtain ⟨h1, h2⟩ := fit_zero h
  have hl := bk_length l
  have hf : fitR (T.bk l) = 0 := fit_of (by omega) fun x hx => h2 x ((T.bk_mem l x).1 hx)
  unfold bookR
  rw [hf, if_neg (by simp), if_pos ((rise_up _).2 (T.bk_up l))]
theorem code_lt {l : List (List UInt8)} {x : List UInt8} (hx : x ∈ l) : T.plc (T.bk l) x < (T.bk l).length ∧ (T.bk l).getD (T.plc (T.bk l) x) [] = x :=
  T.plc_mem (T.bk_up l) ((T.bk_mem l x).2 hx)
theorem texts_bk {l : List (List UInt8)} (h : fitR l = 0) : textsR (T.bk l) (l.map (T.plc (T.bk l))) = (l, 0) := by
  obtain ⟨h1, h2⟩ := fit_zero h
  unfold textsR
  rw [if_neg (by simp [book_bk h]), if_neg (by simp; omega), if_neg]
  · rw [List.map_map]
    have : l.map ((fun c => (T.bk l).getD c []) ∘ T.plc (T.bk l)) = l.map id := List.map_congr_left fun x hx => (code_lt hx).2
    rw [this, List.map_id]
  · rw [List.any_map, List.any_eq_true]
    rintro ⟨x, hx, hd⟩
    have := (code_lt hx).1
    simp at hd
    omega
theorem ofR_bad {l : List (List UInt8)} (h : fitR l ≠ 0) : ofR l = ([], [], fitR l) := by unfold ofR; rw [if_pos h]
theorem ofR_ok {l : List (List UInt8)} (h : fitR l = 0) : ofR l = (T.bk l, l.map (T.plc (T.bk l)), 0) := by unfold ofR; rw [if_neg (by simp [h])]
theorem tmem (l : List (List UInt8)) (k : Nat) (hk : k < l.length) : l.getD k [] ∈ l := by
  simp only [List.getD, List.getElem?_eq_getElem hk, Option.getD_some]
  exact List.getElem_mem hk
theorem code_at (f : List UInt8 → Nat) (l : List (List UInt8)) (k : Nat) (hk : k < l.length) : (l.map f).getD k 0 = f (l.getD k []) := by
  simp [List.getD, hk]
theorem getD_get (l : List (List UInt8)) (k : Nat) (hk : k < l.length) : l.getD k [] = l[k] := by simp [List.getD, List.getElem?_eq_getElem hk]
theorem span_ge {l : List (List UInt8)} {x lo : List UInt8} (hx : x ∈ l) : decide (T.plc (T.bk l) lo ≤ T.plc (T.bk l) x) = !decide (x < lo) := by
  obtain ⟨h1, h2⟩ := code_lt hx
  have h3 := T.plc_ge (T.bk_up l) lo h1
  have e : (T.bk l)[T.plc (T.bk l) x] = x := (getD_get _ _ h1).symm.trans h2
  rw [e] at h3
  rw [Bool.eq_iff_iff, decide_eq_true_iff, h3]
  simp
theorem span_lt {l : List (List UInt8)} {x hi : List UInt8} (hx : x ∈ l) : decide (T.plc (T.bk l) x < T.plA (T.bk l) hi) = !decide (hi < x) := by
  obtain ⟨h1, h2⟩ := code_lt hx
  have h3 := T.plA_gt (T.bk_up l) hi h1
  have e : (T.bk l)[T.plc (T.bk l) x] = x := (getD_get _ _ h1).symm.trans h2
  rw [e] at h3
  rw [Bool.eq_iff_iff, decide_eq_true_iff, Bool.not_eq_true', decide_eq_false_iff_not, ← h3]
  omega
/-- is it among the first? -/
def seen (l : List (List UInt8)) (x : List UInt8) (k : Nat) : Bool := (l.take k).any fun y => decide (y = x)
theorem seen_zero (l : List (List UInt8)) (x : List UInt8) : seen l x 0 = false := by simp [seen]
theorem seen_succ (l : List (List UInt8)) (x : List UInt8) (k : Nat) (hk : k < l.length) : seen l x (k + 1) = (seen l x k || decide (l.getD k [] = x)) := by
  unfold seen; rw [ttake_succ l k hk, List.any_append]; simp
theorem seen_all (l : List (List UInt8)) (x : List UInt8) (hx : x ∈ l) : seen l x l.length = true := by
  unfold seen; rw [List.take_length]; exact List.any_eq_true.2 ⟨x, hx, by simp⟩
end Go.Proofs.YtmiboibadccceaaGreat
/- The walk of hypostyleref.placeOf. -/
namespace Go.Proofs.YtmiboibadccceaaGreat
open Go.RowKit
set_option linter.unusedVariables false

theorem seen_iff (l : List (List UInt8)) (x : List UInt8) (k : Nat) : seen l x k = true ↔ x ∈ l.take k := by
  unfold seen
  rw [List.any_eq_true]
  constructor
  · rintro ⟨y, hy, h⟩
    rw [decide_eq_true_iff] at h
    subst h; exact hy
  · exact fun h => ⟨x, h, by simp⟩
/-- the texts that stand for the first time among the first -/
def nb (l : List (List UInt8)) : Nat → List (List UInt8)
  | 0 => []
  | k + 1 => if seen l (l.getD k []) k then nb l k else nb l k ++ [l.getD k []]
theorem nb_mem (l : List (List UInt8)) (x : List UInt8) : ∀ k, k ≤ l.length → (x ∈ nb l k ↔ x ∈ l.take k) := by
  intro k
  induction k with
  | zero => intro _; simp [nb]
  | succ k ih =>
    intro h
    have h1 := ih (by omega)
    rw [ttake_succ l k (by omega), List.mem_append, List.mem_singleton]
    unfold nb
    by_cases hs : seen l (l.getD k []) k = true
    · rw [if_pos hs, h1]
      rw [seen_iff] at hs
      constructor
      · exact Or.inl
      · rintro (h2 | h2)
        · exact h2
        · rw [h2]; exact hs
    · rw [if_neg hs, List.mem_append, List.mem_singleton, h1]
theorem nb_nodup (l : List (List UInt8)) : ∀ k, k ≤ l.length → (nb l k).Nodup := by
  intro k
  induction k with
  | zero => intro _; simp [nb]
  | succ k ih =>
    intro h
    have h1 := ih (by omega)
    unfold nb
    by_cases hs : seen l (l.getD k []) k = true
    · rw [if_pos hs]; exact h1
    · rw [if_neg hs]
      refine List.nodup_append.2 ⟨h1, by simp, fun x hx y hy e => ?_⟩
      rw [List.mem_singleton] at hy
      subst e
      rw [hy, nb_mem l _ k (by omega), ← seen_iff] at hx
      exact hs hx
theorem nb_length (l : List (List UInt8)) : ∀ k, (nb l k).length ≤ k := by
  intro k
  induction k with
  | zero => simp [nb]
  | succ k ih =>
    unfold nb
    split
    · omega
    · simp; omega
def cntO (l : List (List UInt8)) (s : List UInt8) (k : Nat) : Nat := (nb l k).countP (pB s false)
theorem cntO_zero (l : List (List UInt8)) (s : List UInt8) : cntO l s 0 = 0 := by simp [cntO, nb]
theorem cntO_le (l : List (List UInt8)) (s : List UInt8) (k : Nat) : cntO l s k ≤ k := Nat.le_trans List.countP_le_length (nb_length l k)
theorem cntO_succ (l : List (List UInt8)) (s : List UInt8) (k : Nat) : cntO l s (k + 1) = cntO l s k + if (!seen l (l.getD k []) k && decide (l.getD k [] < s)) = true then 1 else 0 := by
  unfold cntO
  rw [nb]
  cases hs : seen l (l.getD k []) k
  · rw [if_neg (by simp), List.countP_append]
    simp [pB]
  · rw [if_pos rfl]; simp
theorem cntO_end (l : List (List UInt8)) (s : List UInt8) : cntO l s l.length = T.plc (T.bk l) s := by
  unfold cntO
  have hp : (nb l l.length).Perm (T.bk l) := (List.perm_ext_iff_of_nodup (nb_nodup l _ (Nat.le_refl _)) (T.up_nodup (T.bk_up l))).2 fun x => by
    rw [nb_mem l x _ (Nat.le_refl _), T.bk_mem, List.take_length]
  rw [hp.countP_eq, count_lt s (T.bk_up l)]

set_option maxHeartbeats 2000000 in
set_option maxRecDepth 100000 in
theorem rplace_any (a : Option Addr) (c : Nat) (l : List (List UInt8)) (s : List UInt8) (w : World) (hm : l.length ≤ 140737488351232) (hs : s.length ≤ maxLen) (hx : ∀ x ∈ l, x.length ≤ maxLen) (hu : Txts w w.heap.size a l) :
    Calls Tryz.prog 97 #[.slice a l.length c, .string (str s)] w fun e w' => e = .returned (.int .i64 (T.plc (T.bk l) s : Nat)) ∧ Below w.heap.size w w' := by
  have HU := Lib.hid hu
  have HTL := Lib.hid (fun k (hk : k < l.length) W => tless_any (l.getD k []) s W (hx _ (tgetD_mem l k hk)) hs)
  have HCE := Lib.hid (cntO_end l s)
  have HC0 := Lib.hid (cntO_zero l s)
  have HCL := Lib.hid (fun k => cntO_le l s k)
  have HCS := Lib.hid (fun k => cntO_succ l s k)
  have HSS := Lib.hid (fun x k h => show (!seen l x (k + 1)) = (!seen l x k && !decide (l.getD k [] = x)) by rw [seen_succ l x k h, Bool.not_or])
  have HS0 := Lib.hid (fun x => show (!seen l x 0) = true by rw [seen_zero]; rfl)
  generalize T.plc (T.bk l) s = P at *
  generalize str s = S at *
  clear hu hx hs
  go_enter Tryz.func97, Tryz.ntmps97
  go_wp2_with fail
  go_loopw [5, 6, 7, 8] (fun n i _ _ wr => ∃ k : Nat, k ≤ l.length ∧ i = .int .i64 k ∧ n = .int .i64 (cntO l s k : Nat) ∧ Below w.heap.size w wr) (fun _ i _ _ _ => l.length - (intOf i).toNat)
  case atStart => exact ⟨0, by omega, rfl, by rw [HC0.out]; rfl, Below.refl _ _⟩
  case round =>
    obtain ⟨k, hk, rfl, rfl, hbw⟩ := hrel
    by_cases hlt : k < l.length
    · obtain ⟨bb, off, rfl, hbb, hcc⟩ := HU.out (fun e => by rw [e] at hlt; simp at hlt)
      have HCC := Lib.hid hcc
      have ck := hcc k hlt
      have hkI : (k : Int) < (l.length : Int) := by omega
      have HT := Lib.hid (HTL.out k hlt)
      have hcs := HCS.out k
      have hcl := HCL.out k
      generalize cntO l s k = n at *
      have HCSK := Lib.hid hcs
      have HTE := Lib.hid (fun y => tl_eq y (l.getD k []))
      generalize l.getD k [] = x at *
      generalize str x = X at *
      clear hcc hcs
      go_wp2_with fail
      go_loopw [7, 8] (fun f i wr2 => ∃ m : Nat, m ≤ k ∧ i = .int .i64 m ∧ f = .bool (!seen l x m) ∧ Below w.heap.size w wr2) (fun _ i _ => k - (intOf i).toNat)
      case atStart => exact ⟨0, by omega, rfl, by rw [HS0.out], hbw⟩
      case round =>
        obtain ⟨m, hmk, rfl, rfl, hbw2⟩ := hrel
        have cx := (hbw2.cell (p := ⟨bb, off + k, none⟩) hbb).trans ck
        by_cases hlt2 : m < k
        · have cm := (hbw2.cell (p := ⟨bb, off + m, none⟩) hbb).trans (HCC.out m (by omega))
          have hss := HSS.out x m (by omega)
          have hte := HTE.out (l.getD m [])
          generalize (!seen l x m) = s0 at *
          generalize decide (l.getD m [] = x) = d at *
          generalize str (l.getD m []) = Y at *
          have HSQ := Lib.hid hss
          have hmI : (m : Int) < (k : Int) := by omega
          have hmI2 : (m : Int) < (l.length : Int) := by omega
          have hte2 : (Y.toList != X.toList) = !d := by unfold bne; rw [hte]
          clear hss
          cases s0
          rotate_left
          · cases d
            all_goals
              go_wp2_with fail
              go_quiet (fail)
              go_wp2_with fail
              exact ⟨⟨m + 1, by omega, by go_num, by rw [HSQ.out]; rfl, below_drewN hbw2 _⟩, by simp [intOf]; omega⟩
          · go_wp2_with fail
            go_quiet (fail)
            go_wp2_with fail
            exact ⟨⟨m + 1, by omega, by go_num, by rw [HSQ.out]; rfl, below_drewN hbw2 _⟩, by simp [intOf]; omega⟩
        · obtain rfl : m = k := by omega
          generalize (!seen l x m) = s0 at *
          generalize decide (x < s) = d at *
          cases s0
          rotate_left
          · cases d
            · go_wp2_with fail
              refine (HT.out _).mono ?_
              rintro e w1 ⟨rfl, d, rfl⟩
              go_wp2_with fail
              exact ⟨⟨m + 1, by omega, by go_num, by rw [HCSK.out]; rfl, below_drewN hbw2 _⟩, by simp [intOf]; omega⟩
            · go_wp2_with fail
              refine (HT.out _).mono ?_
              rintro e w1 ⟨rfl, d, rfl⟩
              go_wp2_with fail
              exact ⟨⟨m + 1, by omega, by go_num, by rw [HCSK.out]; go_num, below_drewN hbw2 _⟩, by simp [intOf]; omega⟩
          · go_wp2_with fail
            exact ⟨⟨m + 1, by omega, by go_num, by rw [HCSK.out]; rfl, hbw2⟩, by simp [intOf]; omega⟩
    · obtain rfl : k = l.length := by omega
      rw [HCE.out]
      go_wp2_with fail
      go_ret
      exact ⟨rfl, hbw⟩
end Go.Proofs.YtmiboibadccceaaGreat
/- The walk of hypostyleref.BookOf. -/
namespace Go.Proofs.YtmiboibadccceaaGreat
open Go.RowKit
set_option linter.unusedVariables false

/-- one more than the highest place among the first -/
def moR (f : List UInt8 → Nat) (l : List (List UInt8)) (k : Nat) : Nat := (l.take k).foldl (fun m x => max m (f x + 1)) 0
theorem moR_succ (f : List UInt8 → Nat) (l : List (List UInt8)) (k : Nat) (hk : k < l.length) : moR f l (k + 1) = max (moR f l k) (f (l.getD k []) + 1) := by
  unfold moR; rw [ttake_succ l k hk, List.foldl_append]; rfl
theorem moR_end (l : List (List UInt8)) : moR (T.plc (T.bk l)) l l.length = (T.bk l).length := by
  have up : ∀ k, k ≤ l.length → moR (T.plc (T.bk l)) l k ≤ (T.bk l).length ∧ ∀ i, i < k → T.plc (T.bk l) (l.getD i []) + 1 ≤ moR (T.plc (T.bk l)) l k := by
    intro k
    induction k with
    | zero => intro _; exact ⟨by simp [moR], fun i hi => absurd hi (by omega)⟩
    | succ k ih =>
      intro h
      obtain ⟨h1, h2⟩ := ih (by omega)
      rw [moR_succ _ l k (by omega)]
      have h3 := (code_lt (tgetD_mem l k (by omega))).1
      refine ⟨by omega, fun i hi => ?_⟩
      by_cases e : i = k
      · subst e; omega
      · have := h2 i (by omega); omega
  obtain ⟨h1, h2⟩ := up l.length (Nat.le_refl _)
  rcases Nat.eq_zero_or_pos (T.bk l).length with h0 | h0
  · omega
  · have hlt : (T.bk l).length - 1 < (T.bk l).length := by omega
    have hm : (T.bk l)[(T.bk l).length - 1] ∈ l := (T.bk_mem l _).1 (List.getElem_mem hlt)
    obtain ⟨i, hi, e⟩ := List.mem_iff_getElem.1 hm
    have h3 := h2 i hi
    have e2 : l.getD i [] = (T.bk l)[(T.bk l).length - 1] := by rw [getD_get _ _ hi]; exact e
    rw [e2, T.plc_at (T.bk_up l) hlt] at h3
    omega

/-- none of the last ones has the place, if not yet got -/
def Miss (f : List UInt8 → Nat) (l : List (List UInt8)) (k q : Nat) (got : Bool) : Prop := got = false → ∀ i, q ≤ i → i < l.length → f (l.getD i []) ≠ k
theorem Miss.down {f : List UInt8 → Nat} {l : List (List UInt8)} {k r : Nat} {got : Bool} (h : Miss f l k (r + 1) got) (hne : f (l.getD r []) ≠ k) : Miss f l k r got := by
  intro hg i hi hl
  by_cases e : i = r
  · rw [e]; exact hne
  · exact h hg i (by omega) hl
theorem Miss.got {f : List UInt8 → Nat} {l : List (List UInt8)} {k r : Nat} : Miss f l k r true := fun h => by cases h
theorem miss_none {l : List (List UInt8)} {k : Nat} {got : Bool} (hk : k < (T.bk l).length) (h : Miss (T.plc (T.bk l)) l k 0 got) : got = true := by
  cases got with
  | true => rfl
  | false =>
    have hm : (T.bk l)[k] ∈ l := (T.bk_mem l _).1 (List.getElem_mem hk)
    obtain ⟨i, hi, e⟩ := List.mem_iff_getElem.1 hm
    refine absurd ?_ (h rfl i (by omega) hi)
    rw [getD_get _ _ hi, e, T.plc_at (T.bk_up l) hk]
def bkTo (b : List (List UInt8)) (k : Nat) (got : Bool) : List (List UInt8) := b.take (if got then k + 1 else k)
theorem bkTo_put {b : List (List UInt8)} {k : Nat} (hk : k < b.length) : bkTo b k true = bkTo b k false ++ [b.getD k []] := by
  unfold bkTo; simp only [if_true]; exact ttake_succ b k hk
def BookOfPost (l : List (List UInt8)) (w : World) (e : Ending) (w' : World) : Prop :=
  ∃ a c a2 c2, e = .returned (.tuple #[.slice a (T.bk l).length c, .slice a2 l.length c2]) ∧ Txts w' w'.heap.size a (T.bk l) ∧ Nums w' w'.heap.size a2 (l.map (T.plc (T.bk l))) ∧ Below w.heap.size w w'

set_option maxHeartbeats 4000000 in
set_option maxRecDepth 100000 in
theorem rbook_any (a : Option Addr) (c : Nat) (l : List (List UInt8)) (w : World) (hm : l.length * 16 ≤ 140737488351232) (hx : ∀ x ∈ l, x.length ≤ maxLen) (hu : Txts w w.heap.size a l) :
    Calls Tryz.prog 52 #[.slice a l.length c] w (BookOfPost l w) := by
  have HU := Lib.hid hu
  have HPL := Lib.hid (fun k (hk : k < l.length) W h => rplace_any a c l (l.getD k []) W (by omega) (hx _ (tgetD_mem l k hk)) hx h)
  have hbl := bk_length l
  have HMS := Lib.hid (fun k h => moR_succ (T.plc (T.bk l)) l k h)
  have HME := Lib.hid (moR_end l)
  have HCL := Lib.hid (fun k (hk : k < l.length) => (code_lt (tgetD_mem l k hk)).1)
  have HCG := Lib.hid (fun k (hk : k < l.length) => (code_lt (tgetD_mem l k hk)).2)
  have HMN := Lib.hid (fun k got (hk : k < (T.bk l).length) h => miss_none (l := l) (k := k) (got := got) hk h)
  have HM0 := Lib.hid (show moR (T.plc (T.bk l)) l 0 = 0 by simp [moR])
  unfold BookOfPost
  generalize hf : T.plc (T.bk l) = f at *
  generalize T.bk l = b at *
  have HST := Lib.hid (fun j (h : j < l.length) => show (l.take (j + 1)).map f = (l.take j).map f ++ [f (l.getD j [])] by
    rw [ttake_succ l j h, List.map_append]; rfl)
  have HLN := Lib.hid (fun j (h : j ≤ l.length) => show ((l.take j).map f).length = j by simp; omega)
  have HCA := Lib.hid (fun j (h : j < l.length) => code_at f l j h)
  have HML := Lib.hid (show (l.map f).length = l.length by simp)
  have HEND := Lib.hid (show (l.take l.length).map f = l.map f by rw [List.take_length])
  have HBP := Lib.hid (fun k (h : k < b.length) => bkTo_put (b := b) (k := k) h)
  have HB0 := Lib.hid (fun k => show b.take k = bkTo b k false from rfl)
  have HB1 := Lib.hid (fun k => show b.take (k + 1) = bkTo b k true from rfl)
  have HBL := Lib.hid (fun k (got : Bool) (h : k < b.length) => show (bkTo b k got).length = if got then k + 1 else k by
    cases got <;> simp [bkTo] <;> omega)
  have HBT := Lib.hid (show b.take b.length = b from List.take_length)
  clear hu hx hf
  go_enter Tryz.func52, Tryz.ntmps52
  go_wp2_with fail
  go_loopw [4, 5, 6, 7] (fun v most i _ wr => ∃ (j : Nat) (M : Int), j ≤ l.length ∧ i = .int .i64 j ∧ most = .int .i64 M ∧ Hid (M = (moR f l j : Int) - 1) ∧ NumRow w.heap.size ((l.take j).map f) v wr ∧ Below w.heap.size w wr) (fun _ _ i _ _ => l.length - (intOf i).toNat)
  case atStart => exact ⟨0, -1, by omega, rfl, rfl, Lib.hid (by rw [HM0.out]; rfl), ⟨rfl, Or.inl ⟨rfl, rfl⟩⟩, Below.refl _ _⟩
  case round =>
    obtain ⟨j, M, hj, rfl, rfl, HM, hrow, hbw⟩ := hrel
    by_cases hlt : j < l.length
    · obtain ⟨bb, off, rfl, hbb, hcc⟩ := HU.out (fun e => by rw [e] at hlt; simp at hlt)
      have cj := (hbw.cell (p := ⟨bb, off + j, none⟩) hbb).trans (hcc j hlt)
      have HPJ := Lib.hid (HPL.out j hlt)
      have hpb := HCL.out j hlt
      have HS := Lib.hid (HST.out j hlt)
      have hln := HLN.out j hj
      have HMJ := Lib.hid (HMS.out j hlt)
      have hjI : (j : Int) < (l.length : Int) := by omega
      generalize f (l.getD j []) = p at *
      generalize (l.take j).map f = acc at *
      generalize str (l.getD j []) = X at *
      have gw : IntKind.u64.wrap (p : Int) = (p : Int) := by rw [IntKind.wrap_u64]; omega
      have hlb : (acc.length + 1) * 8 ≤ 140737488355328 := by omega
      have hown : wr.ownsRow w.heap.size 46 1 u4 acc.length (nv acc) := hrow
      have HOWN := Lib.hid hown
      have HUN := Lib.hid (HU.out.next hbw)
      have HBW := Lib.hid hbw
      have hM0 := HM.out
      have HMM := Lib.hid (show (M < (p : Int)) → ((p : Int) = (moR f l (j + 1) : Int) - 1) by rw [HMJ.out]; omega)
      have HMX := Lib.hid (show ¬ (M < (p : Int)) → (M = (moR f l (j + 1) : Int) - 1) by rw [HMJ.out]; omega)
      clear hrow hown hln hcc hbw hM0
      by_cases hMp : M < (p : Int)
      · have g1 : decide (M < (p : Int)) = true := decide_eq_true hMp
        have HN1 := Lib.hid (HMM.out hMp)
        clear hMp
        go_wp2_with fail
        refine (HPJ.out _ HUN.out).mono ?_
        rintro e w4 ⟨rfl, hb4⟩
        have hbw4 := below_then HBW.out hb4
        have HOWN4 := Lib.hid (row_below HOWN.out hb4)
        go_wp2_with (at_builtin; refine wpList_append_one rfl (.tmp 23) (.tmp 26) rfl w.heap.size _ acc.length _ rfl (HOWN4.out.alloc _) w4.heap.size p rfl (World.cell?_alloc_new _ _ _ _) hlb (by have := hbw4.size; simp; omega) ?_)
        intro v' w5 hown5 hgrow5
        have hbw5 : Below w.heap.size w w5 := (hbw4.alloc hbw4.size _).grown hgrow5 (by have := hbw4.size; simp; omega) (fun k hk => (HOWN4.out.lt k hk).1)
        go_wp2_with fail
        refine ⟨⟨j + 1, (p : Int), by omega, by go_num, rfl, HN1, ?_, hbw5⟩, by simp [intOf]; omega⟩
        rw [HS.out]; unfold NumRow; rw [List.length_append]; simpa [nv] using hown5
      · have g1 : decide (M < (p : Int)) = false := decide_eq_false hMp
        have HN1 := Lib.hid (HMX.out hMp)
        clear hMp
        go_wp2_with fail
        refine (HPJ.out _ HUN.out).mono ?_
        rintro e w4 ⟨rfl, hb4⟩
        have hbw4 := below_then HBW.out hb4
        have HOWN4 := Lib.hid (row_below HOWN.out hb4)
        go_wp2_with (at_builtin; refine wpList_append_one rfl (.tmp 23) (.tmp 26) rfl w.heap.size _ acc.length _ rfl (HOWN4.out.alloc _) w4.heap.size p rfl (World.cell?_alloc_new _ _ _ _) hlb (by have := hbw4.size; simp; omega) ?_)
        intro v' w5 hown5 hgrow5
        have hbw5 : Below w.heap.size w w5 := (hbw4.alloc hbw4.size _).grown hgrow5 (by have := hbw4.size; simp; omega) (fun k hk => (HOWN4.out.lt k hk).1)
        go_wp2_with fail
        refine ⟨⟨j + 1, M, by omega, by go_num, rfl, HN1, ?_, hbw5⟩, by simp [intOf]; omega⟩
        rw [HS.out]; unfold NumRow; rw [List.length_append]; simpa [nv] using hown5
    · obtain rfl : j = l.length := by omega
      rw [HEND.out] at hrow
      have hM := HM.out
      rw [HME.out] at hM
      have HMB := Lib.hid hM
      obtain ⟨a2, c2, rfl, hn⟩ := numRow_nums hrow
      obtain ⟨w2, hw2⟩ : ∃ w2, w2 = wr := ⟨_, rfl⟩
      subst hw2
      have HN := Lib.hid hn
      have HU2 := Lib.hid (HU.out.next hbw)
      have HBW := Lib.hid hbw
      generalize hcs : l.map f = cs at *
      have HCSE := Lib.hid hcs
      have HCSL := Lib.hid HML.out
      clear hrow hn hM hbw HM hcs
      go_wp2_with fail
      go_loopw [8, 9, 10] (fun v n _ wr2 => ∃ k : Nat, k ≤ b.length ∧ n = .int .i64 k ∧ TRow w2.heap.size (b.take k) v wr2 ∧ Below w2.heap.size w2 wr2) (fun _ n _ _ => b.length - (intOf n).toNat)
      case atStart => exact ⟨0, by omega, rfl, tnilRow _ _, Below.refl _ _⟩
      case round =>
        obtain ⟨k, hk, rfl, hrow, hbw⟩ := hrel
        by_cases hlt : k < b.length
        · have g1 : decide ((k : Int) ≤ M) = true := decide_eq_true (by have := HMB.out; omega)
          have HBPK := Lib.hid (HBP.out k hlt)
          have HBLK := Lib.hid (fun got => HBL.out k got hlt)
          have HMNK := Lib.hid (fun got h => HMN.out k got hlt h)
          have gw1 : IntKind.i64.wrap ((l.length : Int) - 1) = (l.length : Int) - 1 := by rw [IntKind.wrap_i64]; omega
          rw [HB0.out] at hrow
          have HROW0 := Lib.hid hrow
          have HBW0 := Lib.hid hbw
          clear hrow hbw
          go_wp2_with fail
          go_loopw [8, 10] (fun v i wr3 => ∃ (q : Nat) (I : Int) (got : Bool), q ≤ l.length ∧ i = .int .i64 I ∧ I = (q : Int) - 1 ∧ Hid (Miss f l k q got) ∧ TRow w2.heap.size (bkTo b k got) v wr3 ∧ Below w2.heap.size w2 wr3) (fun _ i _ => (intOf i + 1).toNat)
          case atStart => exact ⟨l.length, (l.length : Int) - 1, false, by omega, rfl, rfl, Lib.hid (fun _ i h1 h2 => absurd h2 (by omega)), HROW0.out, HBW0.out⟩
          case round =>
            obtain ⟨q, I, got, hq, rfl, hI, HMI, hrow, hbw⟩ := hrel
            by_cases h0 : 0 < q
            · obtain ⟨r, rfl⟩ : ∃ r, q = r + 1 := ⟨q - 1, by omega⟩
              obtain rfl : I = (r : Int) := by omega
              have hr : r < l.length := by omega
              obtain ⟨b1, o1, rfl, hb1l, hcc1⟩ := HU2.out (fun e => by rw [e] at hr; simp at hr)
              obtain ⟨b2, o2, rfl, hb2l, hcc2⟩ := HN.out (fun e => by have := HCSL.out; rw [e] at this; simp at this; omega)
              have cx := (hbw.cell (p := ⟨b1, o1 + r, none⟩) hb1l).trans (hcc1 r hr)
              have cc := (hbw.cell (p := ⟨b2, o2 + r, none⟩) hb2l).trans (hcc2 r (by have := HCSL.out; omega))
              rw [HCA.out r hr] at cc
              have hpb := HCL.out r hr
              have hpg := HCG.out r hr
              have HMD := Lib.hid (fun h => HMI.out.down h)
              have gw2 : IntKind.i64.wrap ((r : Int) - 1) = (r : Int) - 1 := by rw [IntKind.wrap_i64]; omega
              have grI : (r : Int) < (l.length : Int) := by omega
              have gr0 : (0 : Int) ≤ (r : Int) := by omega
              have grC : (r : Int) < (cs.length : Int) := by have := HCSL.out; omega
              generalize f (l.getD r []) = p at *
              have gw3 : IntKind.i64.wrap (p : Int) = (p : Int) := by rw [IntKind.wrap_i64]; omega
              obtain ⟨a', c', rfl, _⟩ := tRow_txts hrow
              have hbln := HBLK.out got
              have HBLN := Lib.hid hbln
              have HBW := Lib.hid hbw
              have HROW := Lib.hid hrow
              clear hcc1 hcc2 hI hbw hrow hbln
              by_cases hpk : p = k
              · have g2 : ((p : Int) == (k : Int)) = true := by rw [beq_iff_eq]; omega
                have HPG := Lib.hid (show l.getD r [] = b.getD k [] by rw [← hpk]; exact hpg.symm)
                cases got
                · rw [HPG.out] at cx
                  generalize hacc : bkTo b k false = acc at *
                  generalize b.getD k [] = y at *
                  have g3 : ((acc.length : Int) == (k : Int)) = true := by have := HBLN.out; simp at this; rw [beq_iff_eq]; omega
                  have hlb : (acc.length + 1) * 16 ≤ 140737488355328 := by have := HBLN.out; simp at this; omega
                  generalize hY : str y = Y at *
                  have HY := Lib.hid hY
                  clear hacc hpk hpg hY
                  go_wp2_with (at_builtin; refine wpList_append_onet rfl (.tmp 57) (.tmp 62) rfl w2.heap.size _ acc rfl (HROW.out.alloc_ _) wr.heap.size y rfl (by rw [HY.out]; exact World.cell?_alloc_new _ _ _ _) hlb (by have := HBW.out.size; simp; omega) ?_)
                  intro v' w5 hown5 hb5w
                  have hbw5 : Below w2.heap.size w2 w5 := (HBW.out.alloc HBW.out.size _).trans hb5w
                  go_wp2_with fail
                  exact ⟨⟨r, (r : Int) - 1, true, by omega, by go_num, rfl, Lib.hid Miss.got, by rw [HBPK.out]; exact hown5, hbw5⟩, by simp [intOf]⟩
                · have g3 : (((bkTo b k true).length : Int) == (k : Int)) = false := by have := HBLN.out; simp at this; rw [beq_eq_false_iff_ne]; omega
                  clear hpk hpg
                  go_wp2_with fail
                  exact ⟨⟨r, (r : Int) - 1, true, by omega, by go_num, rfl, Lib.hid Miss.got, HROW.out, HBW.out⟩, by simp [intOf]⟩
              · have g2 : ((p : Int) == (k : Int)) = false := by rw [beq_eq_false_iff_ne]; omega
                have HN1 := Lib.hid (HMD.out hpk)
                clear hpk hpg
                go_wp2_with fail
                exact ⟨⟨r, (r : Int) - 1, got, by omega, by go_num, rfl, HN1, HROW.out, HBW.out⟩, by simp [intOf]⟩
            · obtain rfl : q = 0 := by omega
              have gI : decide ((0 : Int) ≤ I) = false := decide_eq_false (by omega)
              have hg := HMNK.out got HMI.out
              subst hg
              rw [← HB1.out] at hrow
              go_wp2_with fail
              exact ⟨⟨k + 1, by omega, by go_num, hrow, hbw⟩, by simp [intOf]; omega⟩
        · obtain rfl : k = b.length := by omega
          have g1 : decide ((b.length : Int) ≤ M) = false := decide_eq_false (by have := HMB.out; omega)
          rw [HBT.out] at hrow
          obtain ⟨a', c', rfl, ht, _⟩ := tRow_txts hrow
          have HT := Lib.hid ht
          have HBW2 := Lib.hid hbw
          clear hrow ht hbw
          go_wp2_with fail
          go_ret2
          exact ⟨a', c', a2, c2, by rw [HCSL.out]; rfl, HT.out, by rw [HCSE.out]; exact HN.out.next HBW2.out, below_then HBW.out HBW2.out⟩
end Go.Proofs.YtmiboibadccceaaGreat
/- Plain mathematics of texts by what they share. -/
namespace Go.Proofs.YtmiboibadccceaaGreat.F
set_option linter.unusedVariables false
abbrev Tx := List UInt8

/-- with how many bytes two texts begin alike -/
def sh : Tx → Tx → Nat
  | x :: s, y :: t => if x = y then sh s t + 1 else 0
  | _, _ => 0
theorem sh_nil_left (b : Tx) : sh [] b = 0 := by cases b <;> rfl
theorem sh_nil_right (a : Tx) : sh a [] = 0 := by cases a <;> rfl
theorem sh_cons_eq (x : UInt8) (s t : Tx) : sh (x :: s) (x :: t) = sh s t + 1 := by rw [sh, if_pos rfl]
theorem sh_cons_ne {x y : UInt8} (h : x ≠ y) (s t : Tx) : sh (x :: s) (y :: t) = 0 := by rw [sh, if_neg h]
theorem sh_comm : ∀ a b : Tx, sh a b = sh b a := by
  intro a
  induction a with
  | nil => intro b; rw [sh_nil_left, sh_nil_right]
  | cons x s ih =>
    intro b
    cases b with
    | nil => rfl
    | cons y t =>
      by_cases h : x = y
      · subst h; rw [sh_cons_eq, sh_cons_eq, ih]
      · rw [sh_cons_ne h, sh_cons_ne (fun e => h e.symm)]
theorem sh_self (a : Tx) : sh a a = a.length := by
  induction a with
  | nil => rfl
  | cons x s ih => rw [sh_cons_eq, ih]; rfl
theorem sh_le_left : ∀ a b : Tx, sh a b ≤ a.length := by
  intro a
  induction a with
  | nil => intro b; rw [sh_nil_left]; exact Nat.zero_le _
  | cons x s ih =>
    intro b
    cases b with
    | nil => rw [sh_nil_right]; exact Nat.zero_le _
    | cons y t =>
      by_cases h : x = y
      · subst h; rw [sh_cons_eq]; have := ih t; simp; omega
      · rw [sh_cons_ne h]; exact Nat.zero_le _
theorem sh_le_right (a b : Tx) : sh a b ≤ b.length := by rw [sh_comm]; exact sh_le_left b a
theorem sh_take : ∀ a b : Tx, a.take (sh a b) = b.take (sh a b) := by
  intro a
  induction a with
  | nil => intro b; rw [sh_nil_left]; simp
  | cons x s ih =>
    intro b
    cases b with
    | nil => rw [sh_nil_right]; simp
    | cons y t =>
      by_cases h : x = y
      · subst h; rw [sh_cons_eq, List.take_succ_cons, List.take_succ_cons, ih]
      · rw [sh_cons_ne h]; simp
theorem sh_ge : ∀ (n : Nat) (a b : Tx), n ≤ a.length → n ≤ b.length → a.take n = b.take n → n ≤ sh a b := by
  intro n
  induction n with
  | zero => intros; exact Nat.zero_le _
  | succ n ih =>
    intro a b ha hb h
    cases a with
    | nil => simp at ha
    | cons x s =>
      cases b with
      | nil => simp at hb
      | cons y t =>
        rw [List.take_succ_cons, List.take_succ_cons] at h
        injection h with h1 h2
        subst h1
        rw [sh_cons_eq]
        have := ih s t (by simpa using ha) (by simpa using hb) h2
        omega
theorem take_le {a b : Tx} {n m : Nat} (h : a.take n = b.take n) (hm : m ≤ n) : a.take m = b.take m := by
  have e : ∀ l : Tx, (l.take n).take m = l.take m := fun l => by rw [List.take_take, Nat.min_eq_left hm]
  rw [← e a, ← e b, h]
theorem sh_ultra (a b c : Tx) : min (sh a b) (sh b c) ≤ sh a c := by
  refine sh_ge _ a c ?_ ?_ ?_
  · have := sh_le_left a b; omega
  · have := sh_le_right b c; omega
  · rw [take_le (sh_take a b) (Nat.min_le_left _ _), take_le (sh_take b c) (Nat.min_le_right _ _)]
theorem sh_eq {a b : Tx} (h : a.length = b.length) : sh a b = a.length ↔ a = b := by
  constructor
  · intro e
    have := sh_take a b
    rw [e, List.take_length, h, List.take_length] at this
    exact this
  · intro e; subst e; exact sh_self a
/-- where two texts part, the lesser one has the lesser byte there, or ends -/
theorem sh_rises : ∀ a b c : Tx, ¬ b < a → ¬ c < b → sh a c = min (sh a b) (sh b c) := by
  intro a
  induction a with
  | nil => intro b c _ _; rw [sh_nil_left, sh_nil_left]; simp
  | cons x s ih =>
    intro b c h1 h2
    cases b with
    | nil => exact absurd (List.nil_lt_cons x s) h1
    | cons y t =>
      cases c with
      | nil => exact absurd (List.nil_lt_cons y t) h2
      | cons z u =>
        rw [List.cons_lt_cons_iff] at h1 h2
        by_cases hxy : x = y
        · subst hxy
          by_cases hyz : x = z
          · subst hyz
            rw [sh_cons_eq, sh_cons_eq, sh_cons_eq, ih t u (fun h => h1 (Or.inr ⟨rfl, h⟩)) (fun h => h2 (Or.inr ⟨rfl, h⟩))]
            omega
          · rw [sh_cons_ne hyz, sh_cons_ne hyz]; simp
        · rw [sh_cons_ne hxy]
          have hxz : x ≠ z := by
            intro e
            subst e
            rcases Nat.lt_trichotomy x.toNat y.toNat with k | k | k
            · exact h2 (Or.inl (UInt8.lt_iff_toNat_lt.2 k))
            · exact hxy (UInt8.toNat_inj.1 k)
            · exact h1 (Or.inl (UInt8.lt_iff_toNat_lt.2 k))
          rw [sh_cons_ne hxz]; simp

/-- the bytes of a list behind a text -/
def fb : Tx → List Tx → List UInt8
  | _, [] => []
  | last, x :: t => V.enc (sh last x) ++ V.enc (x.length - sh last x) ++ x.drop (sh last x) ++ fb x t
theorem fb_snoc : ∀ (l : List Tx) (last x : Tx), fb last (l ++ [x]) = fb last l ++ (V.enc (sh (l.getLastD last) x) ++ V.enc (x.length - sh (l.getLastD last) x) ++ x.drop (sh (l.getLastD last) x)) := by
  intro l
  induction l with
  | nil => intro last x; simp [fb]
  | cons y t ih =>
    intro last x
    rw [List.cons_append, fb, ih, fb]
    have e : (y :: t).getLastD last = t.getLastD y := by cases t <;> rfl
    rw [e]
    simp only [List.append_assoc]
/-- how many bytes, if each text is short -/
def fl : Tx → List Tx → Nat
  | _, [] => 0
  | last, x :: t => 2 + (x.length - sh last x) + fl x t
theorem enc_one {n : Nat} (h : n < 128) : (V.enc n).length = 1 := by
  rw [V.enc_length]; have := V.sz_spec n; omega
theorem fb_length : ∀ (l : List Tx) (last : Tx), (∀ x ∈ l, x.length ≤ 16) → (fb last l).length = fl last l := by
  intro l
  induction l with
  | nil => intro last _; rfl
  | cons x t ih =>
    intro last h
    have hx := h x (by simp)
    have hs := sh_le_right last x
    rw [fb, fl, List.length_append, List.length_append, List.length_append, enc_one (by omega), enc_one (by omega), List.length_drop, ih x (fun y hy => h y (by simp [hy]))]

/-- so many texts of bytes, behind a text -/
def fr : Nat → Tx → List UInt8 → List Tx × Nat
  | 0, _, s => if s = [] then ([], 0) else ([], 1)
  | k + 1, last, s =>
    if (V.rd s).2.2 ≠ 0 then ([], (V.rd s).2.2)
    else if (V.rd (s.drop (V.rd s).2.1)).2.2 ≠ 0 then ([], (V.rd (s.drop (V.rd s).2.1)).2.2)
    else if last.length < (V.rd s).1 then ([], 3)
    else if 16 < (V.rd s).1 + (V.rd (s.drop (V.rd s).2.1)).1 then ([], 2)
    else if (s.drop ((V.rd s).2.1 + (V.rd (s.drop (V.rd s).2.1)).2.1)).length < (V.rd (s.drop (V.rd s).2.1)).1 then ([], 5)
    else if sh last (last.take (V.rd s).1 ++ (s.drop ((V.rd s).2.1 + (V.rd (s.drop (V.rd s).2.1)).2.1)).take (V.rd (s.drop (V.rd s).2.1)).1) ≠ (V.rd s).1 then ([], 1)
    else
      let t := last.take (V.rd s).1 ++ (s.drop ((V.rd s).2.1 + (V.rd (s.drop (V.rd s).2.1)).2.1)).take (V.rd (s.drop (V.rd s).2.1)).1
      let z := fr k t ((s.drop ((V.rd s).2.1 + (V.rd (s.drop (V.rd s).2.1)).2.1)).drop (V.rd (s.drop (V.rd s).2.1)).1)
      if z.2 ≠ 0 then ([], z.2) else (t :: z.1, 0)
theorem take_share {last x : Tx} : last.take (sh last x) ++ x.drop (sh last x) = x := by
  rw [sh_take, List.take_append_drop]
/-- what is written is read as it was -/
theorem fr_fb : ∀ (l : List Tx) (last : Tx), (∀ x ∈ l, x.length ≤ 16) → fr l.length last (fb last l) = (l, 0) := by
  intro l
  induction l with
  | nil => intro last _; rfl
  | cons x t ih =>
    intro last h
    have hx := h x (by simp)
    have hs := sh_le_right last x
    have hs2 := sh_le_left last x
    have r1 : V.rd (fb last (x :: t)) = (sh last x, V.sz (sh last x), 0) := by
      rw [fb, List.append_assoc, List.append_assoc]; exact V.rd_enc _ (by omega) _
    have d1 : (fb last (x :: t)).drop (V.sz (sh last x)) = V.enc (x.length - sh last x) ++ (x.drop (sh last x) ++ fb x t) := by
      rw [fb, List.append_assoc, List.append_assoc, List.drop_left' (V.enc_length _)]
    have r2 := V.rd_enc (x.length - sh last x) (by omega) (x.drop (sh last x) ++ fb x t)
    have d2 : (fb last (x :: t)).drop (V.sz (sh last x) + V.sz (x.length - sh last x)) = x.drop (sh last x) ++ fb x t := by
      rw [← List.drop_drop, d1, List.drop_left' (V.enc_length _)]
    have t2 : (x.drop (sh last x) ++ fb x t).take (x.length - sh last x) = x.drop (sh last x) := List.take_left' (by simp)
    have t3 : (x.drop (sh last x) ++ fb x t).drop (x.length - sh last x) = fb x t := List.drop_left' (by simp)
    have hi := ih x (fun y hy => h y (by simp [hy]))
    rw [List.length_cons, fr]
    simp only [r1, d1, r2, d2, t2, t3, take_share, hi]
    rw [if_neg (by simp), if_neg (by simp), if_neg (by omega), if_neg (by omega), if_neg (by simp), if_neg (by simp), if_neg (by simp)]
/-- what is read is written as it stood -/
theorem fr_ok : ∀ (k : Nat) (last : Tx) (s : List UInt8) (l : List Tx), fr k last s = (l, 0) → fb last l = s ∧ l.length = k ∧ ∀ x ∈ l, x.length ≤ 16 := by
  intro k
  induction k with
  | zero =>
    intro last s l h
    rw [fr] at h
    by_cases hs : s = []
    · rw [if_pos hs] at h
      obtain rfl : l = [] := ((Prod.mk.injEq _ _ _ _).mp h).1.symm
      exact ⟨by rw [hs]; rfl, rfl, by simp⟩
    · rw [if_neg hs] at h
      exact absurd ((Prod.mk.injEq _ _ _ _).mp h).2 (by decide)
  | succ k ih =>
    intro last s l h
    rw [fr] at h
    have no : ∀ e : Nat, e ≠ 0 → (([], e) : List Tx × Nat) = (l, 0) → False := fun e he hh => he ((Prod.mk.injEq _ _ _ _).mp hh).2
    by_cases h1 : (V.rd s).2.2 ≠ 0
    · rw [if_pos h1] at h; exact (no _ h1 h).elim
    rw [if_neg h1] at h
    by_cases h2 : (V.rd (s.drop (V.rd s).2.1)).2.2 ≠ 0
    · rw [if_pos h2] at h; exact (no _ h2 h).elim
    rw [if_neg h2] at h
    by_cases h3 : last.length < (V.rd s).1
    · rw [if_pos h3] at h; exact (no _ (by decide) h).elim
    rw [if_neg h3] at h
    by_cases h4 : 16 < (V.rd s).1 + (V.rd (s.drop (V.rd s).2.1)).1
    · rw [if_pos h4] at h; exact (no _ (by decide) h).elim
    rw [if_neg h4] at h
    by_cases h5 : (s.drop ((V.rd s).2.1 + (V.rd (s.drop (V.rd s).2.1)).2.1)).length < (V.rd (s.drop (V.rd s).2.1)).1
    · rw [if_pos h5] at h; exact (no _ (by decide) h).elim
    rw [if_neg h5] at h
    obtain ⟨n, a, e, hr⟩ : ∃ n a e, V.rd s = (n, a, e) := ⟨_, _, _, rfl⟩
    rw [hr] at h h1 h2 h3 h4 h5
    simp only at h h1 h2 h3 h4 h5
    obtain ⟨m, b, f, hq⟩ : ∃ m b f, V.rd (s.drop a) = (m, b, f) := ⟨_, _, _, rfl⟩
    rw [hq] at h h2 h4 h5
    simp only at h h2 h4 h5
    obtain rfl : e = 0 := by omega
    obtain rfl : f = 0 := by omega
    obtain ⟨_, ha, ea, _, _, sa⟩ := V.rd_ok s n a hr
    obtain ⟨_, hb, eb, _, _, sb⟩ := V.rd_ok (s.drop a) m b hq
    obtain ⟨s2, hs2⟩ : ∃ s2, s2 = s.drop (a + b) := ⟨_, rfl⟩
    rw [← hs2] at h h5
    by_cases h6 : sh last (last.take n ++ s2.take m) ≠ n
    · rw [if_pos h6] at h; exact (no _ (by decide) h).elim
    rw [if_neg h6] at h
    have h6' : sh last (last.take n ++ s2.take m) = n := by omega
    obtain ⟨t, ht⟩ : ∃ t, t = last.take n ++ s2.take m := ⟨_, rfl⟩
    rw [← ht] at h h6'
    have tl : t.length = n + m := by rw [ht, List.length_append, List.length_take, List.length_take]; omega
    obtain ⟨z, g, hz⟩ : ∃ z g, fr k t (s2.drop m) = (z, g) := ⟨_, _, rfl⟩
    simp only [hz] at h
    by_cases h7 : g ≠ 0
    · rw [if_pos h7] at h; exact (no _ h7 h).elim
    rw [if_neg h7] at h
    obtain rfl : g = 0 := by omega
    obtain rfl : l = t :: z := ((Prod.mk.injEq _ _ _ _).mp h).1.symm
    obtain ⟨i1, i2, i3⟩ := ih t (s2.drop m) z hz
    refine ⟨?_, by simp [i2], ?_⟩
    · rw [fb, h6', i1, ea, tl, Nat.add_sub_cancel_left, eb]
      have td : t.drop n = s2.take m := by
        rw [ht]; exact List.drop_left' (by rw [List.length_take]; omega)
      rw [td, List.append_assoc, List.append_assoc, List.take_append_drop]
      have : s2 = (s.drop a).drop b := by rw [hs2, List.drop_drop]
      rw [this, List.take_append_drop, List.take_append_drop]
    · intro x hx
      rcases List.mem_cons.1 hx with hx | hx
      · rw [hx, tl]; omega
      · exact i3 x hx
theorem fr_err : ∀ (k : Nat) (last : Tx) (s : List UInt8), (fr k last s).2 ≠ 0 → (fr k last s).1 = [] := by
  intro k
  cases k with
  | zero => intro last s h; rw [fr] at h ⊢; split at h <;> split <;> simp_all
  | succ k =>
    intro last s h
    rw [fr] at h ⊢
    by_cases h1 : (V.rd s).2.2 ≠ 0
    · rw [if_pos h1]
    rw [if_neg h1] at h ⊢
    by_cases h2 : (V.rd (s.drop (V.rd s).2.1)).2.2 ≠ 0
    · rw [if_pos h2]
    rw [if_neg h2] at h ⊢
    by_cases h3 : last.length < (V.rd s).1
    · rw [if_pos h3]
    rw [if_neg h3] at h ⊢
    by_cases h4 : 16 < (V.rd s).1 + (V.rd (s.drop (V.rd s).2.1)).1
    · rw [if_pos h4]
    rw [if_neg h4] at h ⊢
    by_cases h5 : (s.drop ((V.rd s).2.1 + (V.rd (s.drop (V.rd s).2.1)).2.1)).length < (V.rd (s.drop (V.rd s).2.1)).1
    · rw [if_pos h5]
    rw [if_neg h5] at h ⊢
    split at h
    · rename_i h6; rw [if_pos h6]
    · rename_i h6; rw [if_neg h6]
      simp only at h ⊢
      split at h
      · rename_i h7; rw [if_pos h7]
      · exact absurd rfl h
end Go.Proofs.YtmiboibadccceaaGreat.F
/- The walks of front.Shared, hypostyleref.SharedOf. -/
namespace Go.Proofs.YtmiboibadccceaaGreat
open Go.RowKit
set_option linter.unusedVariables false

theorem sh_step_eq (x y : List UInt8) (k : Nat) (h1 : k < x.length) (h2 : k < y.length) (e : x[k] = y[k]) : F.sh (x.drop k) (y.drop k) = F.sh (x.drop (k + 1)) (y.drop (k + 1)) + 1 := by
  rw [List.drop_eq_getElem_cons h1, List.drop_eq_getElem_cons h2, e, F.sh_cons_eq]
theorem sh_step_ne (x y : List UInt8) (k : Nat) (h1 : k < x.length) (h2 : k < y.length) (e : x[k] ≠ y[k]) : F.sh (x.drop k) (y.drop k) = 0 := by
  rw [List.drop_eq_getElem_cons h1, List.drop_eq_getElem_cons h2, F.sh_cons_ne e]
theorem sh_step_end (x y : List UInt8) (k : Nat) (h : k = x.length ∨ k = y.length) : F.sh (x.drop k) (y.drop k) = 0 := by
  rcases h with h | h
  · rw [h, List.drop_length, F.sh_nil_left]
  · rw [h, List.drop_length, F.sh_nil_right]

set_option maxHeartbeats 1000000 in
set_option maxRecDepth 100000 in
theorem shared_core (x y : List UInt8) (X Y : ByteArray) (w : World) (hx : x.length ≤ 9223372036854775807) (hy : y.length ≤ 9223372036854775807) (hsx : X.size = x.length) (hsy : Y.size = y.length)
    (hxa : ∀ i (h : i < X.size) (h2 : i < x.length), X[i] = x[i]) (hya : ∀ i (h : i < Y.size) (h2 : i < y.length), Y[i] = y[i]) :
    Calls Tryz.prog 138 #[.string X, .string Y] w fun e w' => e = .returned (.int .i64 (F.sh x y : Nat)) ∧ ∃ d, w' = w.drewN d := by
  have HXA := Lib.hid hxa
  have HYA := Lib.hid hya
  clear hxa hya
  obtain ⟨R, hR⟩ : ∃ R, R = F.sh x y := ⟨_, rfl⟩
  have HD0 := Lib.hid (show R = 0 + F.sh (x.drop 0) (y.drop 0) by rw [hR]; simp)
  rw [← hR]
  have HNE := Lib.hid (fun i h1 h2 e => sh_step_ne x y i h1 h2 e)
  have HEQ := Lib.hid (fun i h1 h2 e => sh_step_eq x y i h1 h2 e)
  have HEN := Lib.hid (fun i h => sh_step_end x y i h)
  clear hR
  have HSX := Lib.hid hsx
  have HSY := Lib.hid hsy
  have hX : X.size ≤ 9223372036854775807 := by omega
  have hY : Y.size ≤ 9223372036854775807 := by omega
  clear hsx hsy hx hy
  obtain ⟨m, hm⟩ : ∃ m : Nat, m = min X.size Y.size := ⟨_, rfl⟩
  have hmi : min (X.size : Int) (Y.size : Int) = (m : Int) := by omega
  have hm1 : m ≤ X.size := by omega
  have hm2 : m ≤ Y.size := by omega
  have HME := Lib.hid (show m = x.length ∨ m = y.length by have := HSX.out; have := HSY.out; omega)
  clear hm
  go_enter Tryz.func138, Tryz.ntmps138
  go_wp2_with fail
  clear hmi
  go_loopw [6, 13] (fun _ i wr => ∃ k d : Nat, k ≤ m ∧ i = .int .i64 k ∧ wr = w.drewN d ∧ Hid (R = k + F.sh (x.drop k) (y.drop k))) (fun _ i _ => m - (intOf i).toNat)
  case atStart => exact ⟨0, 0, by omega, rfl, rfl, HD0⟩
  case round =>
    obtain ⟨k, d, hk, rfl, rfl, HJ⟩ := hrel
    by_cases hlt : k < m
    · have hl1 : k < X.size := by omega
      have hl2 : k < Y.size := by omega
      have h1 : k < x.length := by have := HSX.out; omega
      have h2 : k < y.length := by have := HSY.out; omega
      have ex := HXA.out k hl1 h1
      have ey := HYA.out k hl2 h2
      have hne := HNE.out k h1 h2
      have heq := HEQ.out k h1 h2
      generalize x[k] = p at *
      generalize y[k] = q at *
      have hk1I : (k : Int) < (X.size : Int) := by omega
      have hk2I : (k : Int) < (Y.size : Int) := by omega
      by_cases hpq : p = q
      · have HN1 := Lib.hid (show R = (k + 1) + F.sh (x.drop (k + 1)) (y.drop (k + 1)) by rw [HJ.out, heq hpq]; omega)
        have g1 : ((p.toNat : Int) != (q.toNat : Int)) = false := by subst hpq; simp
        have g2 : ((p.toNat) != (q.toNat)) = false := by subst hpq; simp
        clear hne heq hpq
        go_wp2_with fail
        go_quiet (fail)
        go_wp2_with fail
        exact ⟨⟨k + 1, d + nq, by omega, by go_num, by first | rfl | exact World.drewN_drewN _ _ _, HN1⟩, by simp [intOf]; omega⟩
      · have HN1 := Lib.hid (show R = k by rw [HJ.out, hne hpq, Nat.add_zero])
        have hne2 : ¬ p.toNat = q.toNat := fun e => hpq (UInt8.toNat_inj.1 e)
        have g1 : ((p.toNat : Int) != (q.toNat : Int)) = true := by rw [bne_iff_ne]; omega
        clear hne heq hpq
        go_wp2_with fail
        go_quiet (fail)
        go_wp2_with fail
        go_ret
        exact ⟨by rw [HN1.out]; rfl, _, by first | rfl | simp only [World.drewN_drewN] ; rfl⟩
    · obtain rfl : k = m := by omega
      have HRE := Lib.hid (show R = k by rw [HJ.out, HEN.out k HME.out, Nat.add_zero])
      go_wp2_with fail
      go_ret
      exact ⟨by rw [HRE.out]; rfl, d, rfl⟩

theorem shared_any (x y : List UInt8) (w : World) (hx : x.length ≤ maxLen) (hy : y.length ≤ maxLen) :
    Calls Tryz.prog 138 #[.string (str x), .string (str y)] w fun e w' => e = .returned (.int .i64 (F.sh x y : Nat)) ∧ ∃ d, w' = w.drewN d :=
  shared_core x y (str x) (str y) w (by unfold maxLen at hx; omega) (by unfold maxLen at hy; omega) (str_size x) (str_size y) (fun i h h2 => str_at x i h h2) (fun i h h2 => str_at y i h h2)
end Go.Proofs.YtmiboibadccceaaGreat
/- Rows of bytes that the call made. -/
namespace Go.Proofs.YtmiboibadccceaaGreat
open Go.RowKit
set_option linter.unusedVariables false

/-- a slice of bytes that the call made -/
def BRow (B : Nat) (xs : List UInt8) (v : Value) (wr : World) : Prop := wr.ownsRow B 5 1 v xs.length (bv xs)
theorem BRow.alloc_ {B : Nat} {xs : List UInt8} {v : Value} {w : World} (h : BRow B xs v w) (o : Obj) : BRow B xs v (w.alloc o) := World.ownsRow.alloc h o
theorem BRow.drew_ {B : Nat} {xs : List UInt8} {v : Value} {w : World} (h : BRow B xs v w) : BRow B xs v w.drew := World.ownsRow.drew h
theorem BRow.below {B : Nat} {xs : List UInt8} {v : Value} {w w' : World} (h : BRow B xs v w) (hb : Below w.heap.size w w') : BRow B xs v w' := row_below h hb
theorem BRow.nil_ (B : Nat) (w : World) : BRow B [] (.slice none 0 0) w := ⟨rfl, Or.inl ⟨rfl, rfl⟩⟩
/-- a write elsewhere -/
theorem BRow.far {B : Nat} {xs : List UInt8} {v : Value} {w : World} (h : BRow B xs v w) (g i : Nat) (u : Value) (hg : g < B) : BRow B xs v (w.setCell ⟨g, i, none⟩ u) := by
  refine ownsRow_setCell_other h ?_ u
  intro e
  have := h.lt g e
  omega
theorem run_text0 (w : World) : (convert 78 9 (.slice none 0 0)).run Tryz.prog w = .ok (.string (str [])) w := by kernel_rfl
theorem BRow.text {B : Nat} {xs : List UInt8} {v : Value} {w : World} (h : BRow B xs v w) :
    (convert 78 9 v).run Tryz.prog w = .ok (.string (str xs)) w := by
  unfold BRow at h
  rcases h.2 with ⟨rfl, h0⟩ | ⟨g, cap, cur, rfl, e2, e3, e4⟩
  · obtain rfl := List.eq_nil_of_length_eq_zero h0
    exact run_text0 w
  · rw [← str_of xs]
    refine run_convert_bytes_arg _ 78 5 Tryz.underlying78 Tryz.underlying5 _ 0 xs.length cap _ (by simp) ?_ 9 Tryz.underlying9
    intro i hi
    rw [Nat.zero_add, h.cellAt i (by omega)]
    simp [bv, List.getElem?_eq_getElem hi]

/-- append of one byte onto a row of the call's own -/
theorem wpList_append_oneb {w : World} {ops : Array Oper} {rest : List Oper} {o : Oper} {a : Act} {Q : Exit → Act → World → Prop} (hgd : o.guard = none) (s x : Operand)
    (ho : o.op = .call { callee := .builtin .append, args := #[s, x], argTypes := #[78, 78] }) (base : Nat)
    (v : Value) (xs : List UInt8) (hs : a.eval s = v) (hown : BRow base xs v w)
    (g : Nat) (y : UInt8) (hx : a.eval x = .slice (some ⟨g, 0, none⟩) 1 1) (hc : w.cell? ⟨g, 0, none⟩ = some (.int .u8 (y.toNat : Int)))
    (hbytes : xs.length + 1 ≤ 140737488355328) (hbase : base ≤ w.heap.size)
    (h : ∀ v' w', BRow base (xs ++ [y]) v' w' → Below base w w' → wpList Tryz.prog ops Q rest (a.put o.dst v') w') : wpList Tryz.prog ops Q (o :: rest) a w := by
  obtain ⟨i, hi, hz0, hz1, hz2⟩ := info_parts info_u8
  refine wpList_append_own w hgd s x 78 ho base 5 i (.int .u8 0) 1 1 Tryz.underlying78 hi hz0 hz1 hz2 rfl (by decide) v xs.length (bv xs) hs hown ⟨g, 0, none⟩ 1 1 [.int .u8 (y.toNat : Int)] hx rfl ?_ ?_ (by unfold maxLen; omega) (by omega) hbase (fun v' w' h1 h2 _ => h v' w' ?_ ?_)
  · intro j u hj
    match j, hj with
    | 0, hj => simp at hj; subst hj; simpa [Addr.add] using hc
  · intro u hu; simp at hu; subst hu; rfl
  · unfold BRow; rw [List.length_append]; simpa [bv] using h1
  · exact (Below.refl base w).grown h2 hbase (fun k hk => (hown.lt k hk).1)

/-- append of a text onto a row of bytes of the call's own -/
theorem wpList_append_texts {w : World} {ops : Array Oper} {rest : List Oper} {o : Oper} {a : Act} {Q : Exit → Act → World → Prop} (hgd : o.guard = none) (s x : Operand)
    (ho : o.op = .call { callee := .builtin .append, args := #[s, x], argTypes := #[78, 9] }) (base : Nat)
    (v : Value) (xs : List UInt8) (hs : a.eval s = v) (hown : BRow base xs v w)
    (t : ByteArray) (ys : List UInt8) (ht : t = str ys) (hx : a.eval x = .string t)
    (hbytes : xs.length + ys.length ≤ 140737488355328) (hbase : base ≤ w.heap.size)
    (h : ∀ v' w', BRow base (xs ++ ys) v' w' → Below base w w' → wpList Tryz.prog ops Q rest (a.put o.dst v') w') : wpList Tryz.prog ops Q (o :: rest) a w := by
  obtain ⟨i, hi, hz0, hz1, hz2⟩ := info_parts info_u8
  have e : Lib.strCells (str ys) = bv ys := by simp [Lib.strCells, bv, str]
  refine Lib.wpList_append_own_string w hgd s x 78 9 ho base 5 i Tryz.underlying78 Tryz.underlying9 hi hz0 hz1 hz2 v xs.length (bv xs) hs hown t hx (by rw [ht, str_size]; unfold maxLen; omega) (by rw [ht, str_size]; omega) hbase (fun v' w' h1 h2 _ => h v' w' ?_ ?_)
  · rw [ht, e, str_size] at h1
    unfold BRow; rw [List.length_append]; simpa [bv] using h1
  · exact (Below.refl base w).grown h2 hbase (fun k hk => (hown.lt k hk).1)
end Go.Proofs.YtmiboibadccceaaGreat
/- The walk of vary.All. -/
namespace Go.Proofs.YtmiboibadccceaaGreat
open Go.RowKit
set_option linter.unusedVariables false

def OutRel (B : Nat) (bs : List UInt8) (v : Value) (wr : World) : Prop :=
  (∃ g cap, v = .slice (some ⟨g, 0, none⟩) bs.length cap) ∧ wr.ownsRow B 5 1 v bs.length (bv bs)

theorem encs_le (l : List Nat) : (V.encs l).length ≤ 9 * l.length := by
  induction l with
  | nil => simp [V.encs]
  | cons x l ih => rw [V.encs_cons, List.length_append, V.enc_length, List.length_cons]; have := V.sz_le x; omega

theorem encs_snoc (l : List Nat) (k : Nat) (hk : k < l.length) : V.encs (l.take (k + 1)) = V.encs (l.take k) ++ V.enc (l.getD k 0) := by
  rw [List.take_succ_eq_append_getElem hk, V.encs_append, V.encs_one]
  simp [List.getD, List.getElem?_eq_getElem hk]

theorem news9 (w : World) (c0 c1 c2 c3 c4 c5 c6 c7 c8 k : Nat) (l : List UInt8) (hl : [c0, c1, c2, c3, c4, c5, c6, c7, c8].take k = l.map (·.toNat)) :
    ∀ (j : Nat) (u : Value), (bv l)[j]? = some u → (w.alloc (.cells #[.int .u8 c0, .int .u8 c1, .int .u8 c2, .int .u8 c3, .int .u8 c4, .int .u8 c5, .int .u8 c6, .int .u8 c7, .int .u8 c8] 104)).cell? ((⟨w.heap.size, 0, none⟩ : Addr).add j) = some u := by
  intro j u hj
  have hadd : (⟨w.heap.size, 0, none⟩ : Addr).add j = ⟨w.heap.size, j, none⟩ := by unfold Addr.add; split <;> simp_all
  rw [hadd, World.cell?_alloc_new]
  have e : bv l = ([c0, c1, c2, c3, c4, c5, c6, c7, c8].take k).map fun x : Nat => Value.int .u8 (x : Int) := by
    rw [hl]; simp [bv]
  rw [e, List.getElem?_map, List.getElem?_take] at hj
  split at hj
  · have hlt : j < 9 := by
      rcases Nat.lt_or_ge j 9 with h | h
      · exact h
      · rw [List.getElem?_eq_none (by simpa using h)] at hj; simp at hj
    have : j = 0 ∨ j = 1 ∨ j = 2 ∨ j = 3 ∨ j = 4 ∨ j = 5 ∨ j = 6 ∨ j = 7 ∨ j = 8 := by omega
    rcases this with rfl | rfl | rfl | rfl | rfl | rfl | rfl | rfl | rfl <;> exact hj
  · simp at hj

theorem own_text (B : Nat) (bs : List UInt8) (g cap : Nat) (w : World) (h : w.ownsRow B 5 1 (.slice (some ⟨g, 0, none⟩) bs.length cap) bs.length (bv bs)) :
    (convert 78 9 (.slice (some ⟨g, 0, none⟩) bs.length cap)).run Tryz.prog w = .ok (.string (str bs)) w := by
  rw [← str_of bs]
  refine run_convert_bytes_arg _ 78 5 Tryz.underlying78 Tryz.underlying5 _ 0 bs.length cap _ (by simp) ?_ 9 Tryz.underlying9
  intro i hi
  rw [Nat.zero_add, h.cellAt i (by omega)]
  simp [bv, List.getElem?_eq_getElem hi]

set_option maxHeartbeats 1000000 in
set_option maxRecDepth 100000 in
theorem all_some (b off c : Nat) (l : List Nat) (w : World) (hl : l.length ≤ 1048576) (hx : ∀ x ∈ l, x < 18446744073709551616) (hb : b < w.heap.size)
    (h1 : ∀ i, i < l.length → w.cell? ⟨b, off + i, none⟩ = some (.int .u64 ((l.getD i 0 : Nat) : Int))) :
    Calls Tryz.prog 139 #[.slice (some ⟨b, off, none⟩) l.length c] w (TextPost (V.encs l) w) := by
  obtain ⟨i0, hi, hz0, hz1, hz2⟩ := info_parts info_u8
  have H1 := Lib.hid h1
  have HX := Lib.hid hx
  clear h1 hx
  go_enter Tryz.func139, Tryz.ntmps139
  go_wp2_with (at_make; refine wpList_make_own _ rfl _ _ 78 rfl w.heap.size 5 i0 (.int .u8 0) 1 Tryz.underlying78 hi hz0 hz1 .i64 .i64 _ l.length rfl rfl (by omega) (by rw [hz2]; omega) (by unfold maxLen; omega) (Nat.le_refl _) ?_; intro w0 hown0 hgrow0)
  have hb0 : Below w.heap.size w w0 := (Below.refl _ _).grown hgrow0 (Nat.le_refl _) (fun k hk => by cases hk)
  have hor0 : OutRel w.heap.size (V.encs (l.take 0)) (.slice (some ⟨w.heap.size, 0, none⟩) 0 l.length) w0 := ⟨⟨_, _, rfl⟩, hown0⟩
  clear hown0 hgrow0
  go_loopw [3, 5, 6, 7, 13] (fun v _ _ _ i wr => ∃ k : Nat, k ≤ l.length ∧ i = .int .i64 k ∧ OutRel w.heap.size (V.encs (l.take k)) v wr ∧ Below w.heap.size w wr) (fun _ _ _ _ i _ => l.length - (intOf i).toNat)
  case atStart => exact ⟨0, by omega, rfl, hor0, hb0⟩
  case round =>
    obtain ⟨k, hk, rfl, ⟨⟨g, cap, rfl⟩, hown⟩, hbw⟩ := hrel
    by_cases hlt : k < l.length
    · have hcell : wr.cell? ⟨b, off + k, none⟩ = some (.int .u64 ((l.getD k 0 : Nat) : Int)) := by
        rw [hbw.cell (p := ⟨b, off + k, none⟩) hb]; exact H1.out k hlt
      have hxk := HX.out _ (getD_mem l k hlt)
      have HS := Lib.hid (encs_snoc l k hlt)
      have hel := encs_le (l.take k)
      rw [List.length_take] at hel
      have h9 := V.sz_le (l.getD k 0)
      have hlen := V.enc_length (l.getD k 0)
      generalize l.getD k 0 = n at *
      generalize V.encs (l.take k) = bs at *
      have HLEN := Lib.hid hlen
      clear hlen
      have hsl := fun b w => run_cut9 b w (V.sz n) h9
      go_wp2_with fail
      refine (spell_any n _ hxk).mono ?_
      rintro e w1 ⟨c0, c1, c2, c3, c4, c5, c6, c7, c8, rfl, hl9, hb1⟩
      have hnews := news9 w1 c0 c1 c2 c3 c4 c5 c6 c7 c8 _ _ hl9
      have hown1 := row_below hown hb1
      have HN := Lib.hid hnews
      clear hl9 hnews
      have hw1 : w.heap.size ≤ w1.heap.size := Nat.le_trans hbw.size hb1.size
      have hb01 : Below w.heap.size w w1 := hbw.trans (hb1.mono hbw.size)
      go_wp2_with (at_builtin; refine wpList_append_own _ rfl (.tmp 22) (.tmp 24) 78 rfl w.heap.size 5 i0 (.int .u8 0) 1 1 Tryz.underlying78 hi hz0 hz1 hz2 rfl (by decide) _ bs.length _ rfl (hown1.alloc _) ⟨w1.heap.size, 0, none⟩ (V.sz n) 9 (bv (V.enc n)) rfl (by rw [bv_length, HLEN.out]; omega) HN.out ?c2 ?c3 ?c4 ?c5 ?_)
      case c2 => intro u hu; simp only [bv, List.mem_map] at hu; obtain ⟨x, _, rfl⟩ := hu; rfl
      case c3 => unfold maxLen; omega
      case c4 => omega
      case c5 => simp; omega
      intro v' w2 hown2 hgrow2 hnil
      go_wp2_with fail
      have hlx : (V.encs (l.take (k + 1))).length = bs.length + V.sz n := by rw [HS.out, List.length_append, HLEN.out]
      have h1n := V.sz_ge n
      obtain ⟨g', cap', hv', _, _⟩ := hown2.form (by omega)
      have hrel' : OutRel w.heap.size (V.encs (l.take (k + 1))) v' w2 := by
        refine ⟨⟨g', cap', by rw [hlx]; exact hv'⟩, ?_⟩
        rw [hlx, HS.out]
        simpa [bv] using hown2
      have hbw2 : Below w.heap.size w w2 := (hb01.alloc hw1 _).grown hgrow2 (by simp; omega) (fun k hk => (hown1.lt k hk).1)
      exact ⟨⟨k + 1, by omega, by go_num, hrel', hbw2⟩, by simp [intOf]; omega⟩
    · obtain rfl : k = l.length := by omega
      have htx := own_text _ _ _ _ _ hown
      rw [List.take_length] at htx ⊢
      go_wp2_with fail
      go_ret
      exact ⟨rfl, hbw⟩

set_option maxHeartbeats 400000 in
set_option maxRecDepth 100000 in
theorem all_nil (a : Option Addr) (c : Nat) (w : World) :
    Calls Tryz.prog 139 #[.slice a 0 c] w (TextPost [] w) := by
  obtain ⟨i0, hi, hz0, hz1, hz2⟩ := info_parts info_u8
  go_enter Tryz.func139, Tryz.ntmps139
  go_wp2_with (at_make; refine wpList_make_own _ rfl _ _ 78 rfl w.heap.size 5 i0 (.int .u8 0) 1 Tryz.underlying78 hi hz0 hz1 .i64 .i64 _ 0 rfl rfl rfl (by rw [hz2]; omega) (by unfold maxLen; omega) (Nat.le_refl _) ?_; intro w0 hown0 hgrow0)
  have hb0 : Below w.heap.size w w0 := (Below.refl _ _).grown hgrow0 (Nat.le_refl _) (fun k hk => by cases hk)
  have htx := own_text _ [] _ _ _ hown0
  simp only [List.length_nil] at htx
  refine wp_loop_rounds 1 ?_
  rw [rounds_succ]
  go_wp2_with fail
  go_ret
  exact ⟨rfl, hb0⟩

theorem all_any (a : Option Addr) (c : Nat) (l : List Nat) (w : World) (hl : l.length ≤ 1048576) (hx : ∀ x ∈ l, x < 18446744073709551616) (hu : Nums w w.heap.size a l) :
    Calls Tryz.prog 139 #[.slice a l.length c] w (TextPost (V.encs l) w) := by
  by_cases hn : l = []
  · subst hn; exact all_nil a c w
  · obtain ⟨b, off, rfl, hb, hc⟩ := hu hn
    exact all_some b off c l w hl hx hb hc
end Go.Proofs.YtmiboibadccceaaGreat
/- The walks of front.Write's function, slices.IndexFunc and ContainsFunc with it, front.Write. -/
namespace Go.Proofs.YtmiboibadccceaaGreat
open Go.RowKit
set_option linter.unusedVariables false

set_option maxHeartbeats 400000 in
theorem flongc_any (x : List UInt8) (w : World) :
    Calls Tryz.prog 137 #[.string (str x)] w fun e w' => e = .returned (.bool (long x)) ∧ w = w' := by
  have hs := str_size x
  have HL := Lib.hid (show long x = decide (16 < (str x).size) by rw [hs]; rfl)
  generalize str x = s at *
  clear hs
  go_enter Tryz.func137, Tryz.ntmps137
  go_wp2_with fail
  go_ret
  exact ⟨by rw [HL.out]; simp; omega, rfl⟩

def idxR (l : List (List UInt8)) : Int := if l.findIdx long < l.length then (l.findIdx long : Nat) else -1

set_option maxHeartbeats 1000000 in
set_option maxRecDepth 100000 in
theorem index_long (w : World) (a : Option Addr) (c : Nat) (l : List (List UInt8)) (hl : l.length ≤ 64) (hu : Txts w w.heap.size a l) :
    Calls Tryz.prog 135 #[.slice a l.length c, .func (.func 137) #[] #[]] w fun e w' => e = .returned (.int .i64 (idxR l)) ∧ w = w' := by
  have HU := Lib.hid hu
  have HST := Lib.hid (fun j h => idx_step long l j h)
  have HC := Lib.hid (fun x => show Calls Tryz.prog 137 #[.string (str x)] w (fun e w' => e = .returned (.bool (long x)) ∧ w = w') from flongc_any x w)
  have HI := Lib.hid (show idxR l = if l.findIdx long < l.length then ((l.findIdx long : Nat) : Int) else -1 from rfl)
  generalize idxR l = I at *
  generalize hp : long = p at *
  clear hu hp
  generalize hR : l.findIdx p = R at *
  have HR0 := Lib.hid (show R = 0 + (l.drop 0).findIdx p by rw [← hR]; simp)
  clear hR
  go_enter Tryz.func135, Tryz.ntmps135
  go_wp2_with fail
  go_loop [5, 8] (fun _ i => ∃ j : Nat, j ≤ l.length ∧ i = .int .i64 j ∧ Hid (R = j + (l.drop j).findIdx p)) (fun _ i => l.length - (intOf i).toNat)
  case atStart => exact ⟨0, by omega, rfl, HR0⟩
  case round =>
    obtain ⟨j, hj, rfl, HJ⟩ := hrel
    by_cases hlt : j < l.length
    · obtain ⟨b, off, rfl, hb, hcc⟩ := HU.out (fun e => by rw [e] at hlt; simp at hlt)
      have cj := hcc j hlt
      have hst := HST.out j hlt
      have HCX := Lib.hid (HC.out (l.getD j []))
      generalize l.getD j [] = x at *
      have hjI : (j : Int) < (l.length : Int) := by omega
      by_cases ho : p x = true
      · rw [ho, if_pos rfl] at hst
        rw [ho] at HCX
        have HRJ := Lib.hid (show I = (j : Int) by rw [HI.out, HJ.out, hst, Nat.add_zero, if_pos hlt])
        clear hcc hst ho
        go_wp2_with fail
        refine (HCX.out).mono ?_
        rintro e w1 ⟨rfl, rfl⟩
        go_wp2_with fail
        go_ret
        exact ⟨by rw [HRJ.out]; rfl, rfl⟩
      · have ho' : p x = false := by simpa using ho
        rw [ho', if_neg (by simp)] at hst
        rw [ho'] at HCX
        have HN := Lib.hid (show R = (j + 1) + (l.drop (j + 1)).findIdx p by rw [HJ.out, hst]; omega)
        clear hcc hst ho ho'
        go_wp2_with fail
        refine (HCX.out).mono ?_
        rintro e w1 ⟨rfl, rfl⟩
        go_wp2_with fail
        exact ⟨⟨j + 1, by omega, by go_num, HN⟩, by simp [intOf]; omega⟩
    · obtain rfl : j = l.length := by omega
      have HRE := Lib.hid (show I = -1 by rw [HI.out, HJ.out, List.drop_length, if_neg (by simp)])
      go_wp2_with fail
      go_ret
      exact ⟨by rw [HRE.out]; rfl, rfl⟩

set_option maxHeartbeats 400000 in
theorem contains_long (w : World) (a : Option Addr) (c : Nat) (l : List (List UInt8)) (hl : l.length ≤ 64) (hu : Txts w w.heap.size a l) :
    Calls Tryz.prog 92 #[.slice a l.length c, .func (.func 137) #[] #[]] w fun e w' => e = .returned (.bool (decide (l.findIdx long < l.length))) ∧ w = w' := by
  have HC := Lib.hid (index_long w a c l hl hu)
  have HG := Lib.hid (show decide (0 ≤ idxR l) = decide (l.findIdx long < l.length) by unfold idxR; by_cases h : l.findIdx long < l.length <;> simp [h])
  generalize idxR l = I at *
  clear hu
  go_enter Tryz.func92, Tryz.ntmps92
  go_wp2_with fail
  refine (HC.out).mono ?_
  rintro e w1 ⟨rfl, rfl⟩
  go_wp2_with fail
  go_ret
  exact ⟨by rw [← HG.out]; rfl, rfl⟩
end Go.Proofs.YtmiboibadccceaaGreat
/- The walk of front.Write. -/
namespace Go.Proofs.YtmiboibadccceaaGreat
open Go.RowKit
set_option linter.unusedVariables false

def fwR (l : List (List UInt8)) : List UInt8 × Nat := if fitR l ≠ 0 then ([], 2) else (F.fb [] l, 0)
def FwPost (r : List UInt8 × Nat) (w : World) (e : Ending) (w' : World) : Prop := e = .returned (.tuple #[.string (str r.1), .int .i64 (r.2 : Nat)]) ∧ Below w.heap.size w w'

theorem ffit_zero {l : List (List UInt8)} (h : fitR l = 0) : l.length ≤ 64 ∧ (∀ x ∈ l, x.length ≤ 16) ∧ ¬ l.findIdx long < l.length := by
  unfold fitR at h
  rcases Classical.em (64 < l.length ∨ l.findIdx long < l.length) with hh | hh
  · rw [if_pos hh] at h; exact absurd h (by decide)
  · refine ⟨?_, ?_, fun k => hh (Or.inr k)⟩
    · rcases Nat.lt_or_ge 64 l.length with k | k
      · exact absurd (Or.inl k) hh
      · exact k
    · intro x hx
      rcases Nat.lt_or_ge 16 x.length with k | k
      · exact absurd (Or.inr (List.findIdx_lt_length_of_exists ⟨x, hx, by simp [long, k]⟩)) hh
      · exact k
theorem fit_cases (l : List (List UInt8)) : fitR l = 0 ∨ fitR l = 2 := by
  unfold fitR; split
  · exact Or.inr rfl
  · exact Or.inl rfl
theorem fb_step (l : List (List UInt8)) (j : Nat) (h : j < l.length) :
    F.fb [] (l.take (j + 1)) = F.fb [] (l.take j) ++ (V.encs [F.sh ((l.take j).getLastD []) (l.getD j []), (l.getD j []).length - F.sh ((l.take j).getLastD []) (l.getD j [])] ++ (l.getD j []).drop (F.sh ((l.take j).getLastD []) (l.getD j []))) := by
  rw [ttake_succ l j h, F.fb_snoc]
  simp [V.encs]
theorem last_step (l : List (List UInt8)) (j : Nat) (h : j < l.length) : (l.take (j + 1)).getLastD [] = l.getD j [] := by
  rw [ttake_succ l j h]; simp
theorem last_len (l : List (List UInt8)) (j : Nat) (hx : ∀ x ∈ l, x.length ≤ 16) : ((l.take j).getLastD []).length ≤ 16 := by
  cases hl : (l.take j).getLast? with
  | none => rw [List.getLastD_eq_getLast?, hl]; simp
  | some x => rw [List.getLastD_eq_getLast?, hl]; exact hx x (List.mem_of_mem_take (List.mem_of_getLast? hl))
theorem fb_bound (l : List (List UInt8)) (last : List UInt8) (hx : ∀ x ∈ l, x.length ≤ 16) : (F.fb last l).length ≤ 18 * l.length := by
  rw [F.fb_length l last hx]
  induction l generalizing last with
  | nil => simp [F.fl]
  | cons x t ih =>
    have h1 := hx x (by simp)
    have h2 := ih x (fun y hy => hx y (by simp [hy]))
    rw [F.fl, List.length_cons]; omega

theorem nums_two (w : World) (n m : Nat) : Nums (w.alloc (.cells #[.int .u64 (n : Int), .int .u64 (m : Int)] 119)) (w.alloc (.cells #[.int .u64 (n : Int), .int .u64 (m : Int)] 119)).heap.size (some ⟨w.heap.size, 0, none⟩) [n, m] := by
  intro _
  refine ⟨w.heap.size, 0, rfl, by simp, fun i hi => ?_⟩
  rw [Nat.zero_add, World.cell?_alloc_new]
  have : i = 0 ∨ i = 1 := by simp at hi; omega
  rcases this with rfl | rfl <;> rfl

theorem alen2 : Tryz.prog.arrayLen 119 = 2 := by kernel_rfl
theorem aunder2 : Tryz.prog.underlying 119 = some (.array (Tryz.prog.arrayLen 119) (Tryz.prog.elem 119)) := by kernel_rfl
theorem asize2 (w : World) : (sizeOf (Tryz.prog.elem 119)).run Tryz.prog w = .ok 1 w := by kernel_rfl

set_option maxHeartbeats 1000000 in
set_option maxRecDepth 100000 in
theorem fwrite_ok (a : Option Addr) (c : Nat) (l : List (List UInt8)) (w : World) (hf : fitR l = 0) (hu : Txts w w.heap.size a l) :
    Calls Tryz.prog 95 #[.slice a l.length c] w (FwPost (fwR l) w) := by
  obtain ⟨hl, hx, hni⟩ := ffit_zero hf
  have HU := Lib.hid hu
  have HX := Lib.hid hx
  have HR := Lib.hid (show fwR l = (F.fb [] l, 0) by unfold fwR; rw [hf]; rfl)
  have hct := contains_long w a c l hl hu
  rw [decide_eq_false hni] at hct
  have HC := Lib.hid hct
  have HFS := Lib.hid (fun j h => fb_step l j h)
  have HLS := Lib.hid (fun j h => last_step l j h)
  have HLL := Lib.hid (fun j => last_len l j hx)
  have HFB := Lib.hid (fun j => fb_bound (l.take j) [] (fun x h => hx x (List.mem_of_mem_take h)))
  have HGM := Lib.hid (fun j (h : j < l.length) => hx _ (tgetD_mem l j h))
  have g1 : decide ((64 : Int) < (l.length : Int)) = false := decide_eq_false (by omega)
  clear hx hu hct hni hf
  go_enter Tryz.func95, Tryz.ntmps95
  go_wp2_with fail
  refine (HC.out).mono ?_
  rintro e w1 ⟨rfl, rfl⟩
  go_wp2_with fail
  go_loopw [5, 6, 8, 9, 10, 21] (fun v b _ _ _ i wr => ∃ j : Nat, j ≤ l.length ∧ i = .int .i64 j ∧ b = .string (str ((l.take j).getLastD [])) ∧ BRow w.heap.size (F.fb [] (l.take j)) v wr ∧ Below w.heap.size w wr) (fun _ _ _ _ _ i _ => l.length - (intOf i).toNat)
  case atStart => exact ⟨0, by omega, rfl, rfl, BRow.nil_ _ _, Below.refl _ _⟩
  case round =>
    obtain ⟨j, hj, rfl, rfl, hbr, hbw⟩ := hrel
    by_cases hlt : j < l.length
    · obtain ⟨b, off, rfl, hb, hcc⟩ := HU.out (fun e => by rw [e] at hlt; simp at hlt)
      have cj := (hbw.cell (p := ⟨b, off + j, none⟩) hb).trans (hcc j hlt)
      have HS := Lib.hid (HFS.out j hlt)
      have HL := Lib.hid (HLS.out j hlt)
      have hll := HLL.out j
      have hxl := HGM.out j hlt
      have hfb := HFB.out j
      rw [List.length_take] at hfb
      generalize l.getD j [] = x at *
      generalize (l.take j).getLastD [] = y at *
      generalize F.fb [] (l.take j) = acc at *
      have HSH := Lib.hid (fun W => shared_any y x W (by unfold maxLen; omega) (by unfold maxLen; omega))
      have hnx := F.sh_le_right y x
      generalize F.sh y x = n at *
      have hsx := str_size x
      obtain ⟨X, hX⟩ : ∃ X, X = str x := ⟨_, rfl⟩
      rw [← hX] at hsx HSH cj
      have HXT := Lib.hid (show X.extract n X.size = str (x.drop n) by
        apply ByteArray.ext; apply Array.toList_inj.mp
        rw [show (X.extract n X.size).data.toList = X.data.toList.drop n from cut_data X n, hX]; rfl)
      generalize str y = Y at *
      have HXX := Lib.hid hX
      clear hX hcc
      have hjI : (j : Int) < (l.length : Int) := by omega
      have hcast : (X.size : Int) - (n : Int) = ((x.length - n : Nat) : Int) := by omega
      have hnX : n ≤ X.size := by omega
      have hX16 : X.size ≤ 16 := by omega
      have hnI : (n : Int) ≤ (X.size : Int) := by omega
      have HCA := Lib.hid hcast
      clear hsx hcast
      go_wp2_with fail
      refine (HSH.out _).mono ?_
      rintro e w2 ⟨rfl, hd⟩
      have hb2 : Below wr.heap.size wr w2 := by obtain ⟨d, rfl⟩ := hd; exact below_drewN (Below.refl _ _) _
      clear hd
      go_wp2_with fail
      have hnn := nums_two w2 n (x.length - n)
      have hal := all_any _ 2 [n, x.length - n] _ (by simp) (by intro z hz; simp at hz; rcases hz with rfl | rfl <;> omega) hnn
      have hel : (V.encs [n, x.length - n]).length ≤ 18 := by have := encs_le [n, x.length - n]; simpa using this
      rw [HCA.out]
      clear hnn
      generalize V.encs [n, x.length - n] = et at *
      refine Calls.mono hal ?_
      rintro e w3 ⟨rfl, hb3⟩
      have hs2 := hb2.size
      have hsw := hbw.size
      have hs3 := hb3.size
      simp at hs3
      have hA : Below w.heap.size wr w3 := ((hb2.mono hsw).alloc (by omega) _).trans (hb3.mono (by simp; omega))
      have hbr3 : BRow w.heap.size acc u5 w3 := (hbr.below hb2).alloc_ _ |>.below hb3
      have hsz3 : w.heap.size ≤ w3.heap.size := by omega
      have HBR3 := Lib.hid hbr3
      have HXN := Lib.hid HXT
      clear hbr hbr3 hb3 hal
      go_wp2_with (at_builtin; refine wpList_append_texts rfl (.tmp 36) (.tmp 38) rfl w.heap.size _ acc rfl HBR3.out (str et) et rfl rfl (by omega) hsz3 ?_)
      intro v5 w5 hbr5 hlow5
      have hB : Below w.heap.size wr w5 := hA.trans hlow5
      have HBR5 := Lib.hid hbr5
      have hsz5 : w.heap.size ≤ w5.heap.size := by have := hlow5.size; omega
      clear hbr5
      go_wp2_with (at_builtin; refine wpList_append_texts rfl (.tmp 40) (.tmp 43) rfl w.heap.size _ (acc ++ et) rfl HBR5.out _ (x.drop n) HXT.out rfl ?_ hsz5 ?_)
      · rw [List.length_append, List.length_drop]; omega
      intro v6 w6 hbr6 hlow6
      have HBR6 := Lib.hid hbr6
      clear hbr6
      go_wp2_with fail
      exact ⟨⟨j + 1, by omega, by go_num, by rw [HL.out, ← HXX.out], by rw [HS.out]; exact HBR6.out, hbw.trans (hB.trans hlow6)⟩, by simp [intOf]; omega⟩
    · obtain rfl : j = l.length := by omega
      rw [List.take_length] at hbr
      have ht := hbr.text
      clear hbr
      go_wp2_with fail
      go_ret2
      exact ⟨by rw [HR.out]; rfl, hbw⟩

set_option maxHeartbeats 400000 in
theorem fwrite_bad (a : Option Addr) (c : Nat) (l : List (List UInt8)) (w : World) (hf : fitR l ≠ 0) (hu : Txts w w.heap.size a l) :
    Calls Tryz.prog 95 #[.slice a l.length c] w (FwPost (fwR l) w) := by
  have HR := Lib.hid (show fwR l = ([], 2) by unfold fwR; rw [if_pos hf])
  by_cases h : 64 < l.length
  · have g1 : decide ((64 : Int) < (l.length : Int)) = true := decide_eq_true (by omega)
    clear hu hf
    go_enter Tryz.func95, Tryz.ntmps95
    go_wp2_with fail
    go_ret2
    exact ⟨by rw [HR.out]; rfl, Below.refl _ _⟩
  · have hct := contains_long w a c l (by omega) hu
    have hi : l.findIdx long < l.length := by
      rcases Nat.lt_or_ge (l.findIdx long) l.length with k | k
      · exact k
      · exact absurd (show fitR l = 0 by unfold fitR; rw [if_neg (by omega)]) hf
    rw [decide_eq_true hi] at hct
    have HC := Lib.hid hct
    have g1 : decide ((64 : Int) < (l.length : Int)) = false := decide_eq_false (by omega)
    clear hct hi hf hu
    go_enter Tryz.func95, Tryz.ntmps95
    go_wp2_with fail
    refine (HC.out).mono ?_
    rintro e w1 ⟨rfl, rfl⟩
    go_wp2_with fail
    go_ret2
    exact ⟨by rw [HR.out]; rfl, Below.refl _ _⟩

theorem fwrite_any (a : Option Addr) (c : Nat) (l : List (List UInt8)) (w : World) (hu : Txts w w.heap.size a l) :
    Calls Tryz.prog 95 #[.slice a l.length c] w (FwPost (fwR l) w) := by
  by_cases hf : fitR l = 0
  · exact fwrite_ok a c l w hf hu
  · exact fwrite_bad a c l w hf hu
end Go.Proofs.YtmiboibadccceaaGreat
/- The walks of front.told, front.next. -/
namespace Go.Proofs.YtmiboibadccceaaGreat
open Go.RowKit
set_option linter.unusedVariables false

theorem rdall_any (s : ByteArray) (w : World) (hs : s.size ≤ maxLen) : Calls Tryz.prog 148 #[.string s] w (ReadPost (V.rd s.data.toList) w) := by
  by_cases h0 : s.size = 0
  · have e : s.data.toList = [] := data_empty s h0
    rw [e]
    exact read_empty s w (empty_true s h0)
  · exact read_any s w hs (by omega) (empty_false s h0)

/-- both sizes with which a text begins, what stands behind them, and what is wrong -/
def toldR (s : List UInt8) : (Nat × Nat) × List UInt8 × Nat :=
  if (V.rd s).2.2 ≠ 0 then ((0, 0), [], (V.rd s).2.2)
  else if (V.rd (s.drop (V.rd s).2.1)).2.2 ≠ 0 then ((0, 0), [], (V.rd (s.drop (V.rd s).2.1)).2.2)
  else (((V.rd s).1, (V.rd (s.drop (V.rd s).2.1)).1), (s.drop (V.rd s).2.1).drop (V.rd (s.drop (V.rd s).2.1)).2.1, 0)
def ToldPost (r : (Nat × Nat) × List UInt8 × Nat) (w : World) (e : Ending) (w' : World) : Prop :=
  e = .returned (.tuple #[.agg #[.int .u64 (r.1.1 : Nat), .int .u64 (r.1.2 : Nat)], .string (str r.2.1), .int .i64 (r.2.2 : Nat)]) ∧ Below w.heap.size w w'

/-- a block of two numbers -/
def Two (w : World) (b n m : Nat) : Prop := w.heap[b]? = some (.cells #[.int .u64 (n : Int), .int .u64 (m : Int)] 119 (0, 0))
theorem Two.cell0 {w : World} {b n m : Nat} (h : Two w b n m) : w.cell? ⟨b, 0, none⟩ = some (.int .u64 (n : Int)) := by unfold Two at h; simp [World.cell?, h]
theorem Two.cell1 {w : World} {b n m : Nat} (h : Two w b n m) : w.cell? ⟨b, 1, none⟩ = some (.int .u64 (m : Int)) := by unfold Two at h; simp [World.cell?, h]
theorem Two.free {w : World} {b n m : Nat} (h : Two w b n m) (i : Nat) : w.frozen? ⟨b, i, none⟩ = false := by unfold Two at h; simp [World.frozen?, h]
theorem Two.lt {w : World} {b n m : Nat} (h : Two w b n m) : b < w.heap.size := lt_of_block h
theorem Two.next {w w' : World} {b n m : Nat} (h : Two w b n m) (hb : Below w.heap.size w w') : Two w' b n m := (hb.block b h.lt).trans h
theorem Two.set0 {w : World} {b n m : Nat} (h : Two w b n m) (x : Nat) : Two (w.setCell ⟨b, 0, none⟩ (.int .u64 (x : Int))) b x m := by
  unfold Two at *; simp [World.setCell, Array.getElem?_modify, h]
theorem Two.set1 {w : World} {b n m : Nat} (h : Two w b n m) (x : Nat) : Two (w.setCell ⟨b, 1, none⟩ (.int .u64 (x : Int))) b n x := by
  unfold Two at *; simp [World.setCell, Array.getElem?_modify, h]
theorem Two.far {w : World} {b n m : Nat} (h : Two w b n m) (b' i : Nat) (v : Value) (hne : b' ≠ b) : Two (w.setCell ⟨b', i, none⟩ v) b n m := by
  unfold Two at *; simp [World.setCell, Array.getElem?_modify, h, hne]
theorem Two.drew {w : World} {b n m : Nat} (h : Two w b n m) : Two w.drew b n m := h
theorem two_made (w : World) : Two ((w.alloc (.cells #[.int .u64 0, .int .u64 0] 119)).alloc (.cells #[.int .u64 0, .int .u64 0] 119)) w.heap.size 0 0 ∧ Two ((w.alloc (.cells #[.int .u64 0, .int .u64 0] 119)).alloc (.cells #[.int .u64 0, .int .u64 0] 119)) (w.heap.size + 1) 0 0 := by
  constructor
  · exact (Below.heap_alloc _ _ _ (by simp)).trans (heap_alloc_new _ _)
  · have : (w.alloc (.cells #[.int .u64 0, .int .u64 0] 119)).heap.size = w.heap.size + 1 := by simp
    unfold Two; rw [← this]; exact heap_alloc_new _ _

/-- what told answers from the place of number j on -/
def tgo : Nat → List UInt8 → Nat → Nat → (Nat × Nat) × List UInt8 × Nat
  | 0, r, x, y => if (V.rd r).2.2 ≠ 0 then ((0, 0), [], (V.rd r).2.2) else
      if (V.rd (r.drop (V.rd r).2.1)).2.2 ≠ 0 then ((0, 0), [], (V.rd (r.drop (V.rd r).2.1)).2.2) else (((V.rd r).1, (V.rd (r.drop (V.rd r).2.1)).1), (r.drop (V.rd r).2.1).drop (V.rd (r.drop (V.rd r).2.1)).2.1, 0)
  | 1, r, x, y => if (V.rd r).2.2 ≠ 0 then ((0, 0), [], (V.rd r).2.2) else ((x, (V.rd r).1), r.drop (V.rd r).2.1, 0)
  | _, r, x, y => ((x, y), r, 0)
theorem tgo_zero {r : List UInt8} {n k x y : Nat} (h : V.rd r = (n, k, 0)) : tgo 0 r x y = tgo 1 (r.drop k) n y := by
  simp [tgo, h]
theorem tgo_one {r : List UInt8} {n k x y : Nat} (h : V.rd r = (n, k, 0)) : tgo 1 r x y = tgo 2 (r.drop k) x n := by
  simp [tgo, h]
theorem tgo_bad {r : List UInt8} {n k e j x y : Nat} (h : V.rd r = (n, k, e)) (he : e ≠ 0) (hj : j < 2) : tgo j r x y = ((0, 0), [], e) := by
  have : j = 0 ∨ j = 1 := by omega
  rcases this with rfl | rfl <;> simp [tgo, h, he]

set_option maxHeartbeats 1000000 in
set_option maxRecDepth 100000 in
theorem told_any (s : List UInt8) (w : World) (hs : s.length ≤ maxLen) :
    Calls Tryz.prog 165 #[.string (str s)] w (ToldPost (toldR s) w) := by
  unfold maxLen at hs
  have H0 := Lib.hid (show toldR s = tgo 0 s 0 0 from rfl)
  generalize toldR s = R at *
  obtain ⟨t1, t2⟩ := two_made w
  have hbel : Below w.heap.size w ((w.alloc (.cells #[.int .u64 0, .int .u64 0] 119)).alloc (.cells #[.int .u64 0, .int .u64 0] 119)) := ((Below.refl _ _).alloc (Nat.le_refl _) _).alloc (by simp) _
  go_enter Tryz.func165, Tryz.ntmps165
  go_wp2_with fail
  obtain ⟨W1, hW1⟩ : ∃ W1, W1 = (w.alloc (.cells #[.int .u64 0, .int .u64 0] 119)).alloc (.cells #[.int .u64 0, .int .u64 0] 119) := ⟨_, rfl⟩
  obtain ⟨b0, hb0⟩ : ∃ b0, b0 = w.heap.size := ⟨_, rfl⟩
  obtain ⟨b1, hb1⟩ : ∃ b1, b1 = w.heap.size + 1 := ⟨_, rfl⟩
  rw [← hW1, ← hb0] at t1
  rw [← hW1, ← hb1] at t2
  rw [← hW1] at hbel
  rw [← hW1, ← hb1, ← hb0]
  have hne : b0 ≠ b1 := by omega
  have hg0 : w.heap.size ≤ b0 := by omega
  have hg1 : w.heap.size ≤ b1 := by omega
  clear hW1 hb0 hb1
  go_loopw [0, 6, 7, 8, 9, 10] (fun t _ _ _ _ i wr => ∃ (j x y : Nat) (r : List UInt8), j ≤ 2 ∧ i = .int .i64 j ∧ t = .string (str r) ∧ r.length ≤ 9223372036854775807 ∧ Two wr b0 0 0 ∧ Two wr b1 x y ∧ Below w.heap.size w wr ∧ Hid (R = tgo j r x y)) (fun _ _ _ _ _ i _ => 2 - (intOf i).toNat)
  case atStart => exact ⟨0, 0, 0, s, by omega, rfl, rfl, by omega, t1, t2, hbel, H0⟩
  case round =>
    obtain ⟨j, x, y, r, hj, rfl, rfl, hrl, q0, q1, hbw, HJ⟩ := hrel
    clear t1 t2 hbel
    by_cases hlt : j < 2
    · have hr := rdall_any (str r) wr (by rw [str_size]; unfold maxLen; omega)
      rw [str_data] at hr
      have hbad := V.rd_bad r
      have hok := V.rd_ok r
      have HZ := Lib.hid (fun n k h => tgo_zero (r := r) (n := n) (k := k) (x := x) (y := y) h)
      have HO := Lib.hid (fun n k h => tgo_one (r := r) (n := n) (k := k) (x := x) (y := y) h)
      have HB := Lib.hid (fun n k e h he => tgo_bad (r := r) (n := n) (k := k) (e := e) (j := j) (x := x) (y := y) h he hlt)
      have hsr := str_size r
      obtain ⟨n, k, e, he⟩ : ∃ n k e, V.rd r = (n, k, e) := ⟨_, _, _, rfl⟩
      rw [he] at hr hbad
      have HC := Lib.hid hr
      clear hr
      by_cases he0 : e = 0
      · subst he0
        obtain ⟨hk1, hkl, _, hn, _, _⟩ := hok n k he
        have HXT := Lib.hid (show (str r).extract k (str r).size = str (r.drop k) by
          apply ByteArray.ext; apply Array.toList_inj.mp
          rw [show ((str r).extract k (str r).size).data.toList = (str r).data.toList.drop k from cut_data _ k]; rfl)
        have HZ2 := Lib.hid (HZ.out n k he)
        have HO2 := Lib.hid (HO.out n k he)
        have hdl : (r.drop k).length ≤ 9223372036854775807 := by rw [List.length_drop]; omega
        have hkI : (k : Int) ≤ ((str r).size : Int) := by omega
        generalize r.drop k = r2 at *
        generalize str r = S at *
        clear hbad hok hsr he HB HZ HO
        go_wp2_with fail
        refine (HC.out).mono ?_
        rintro e2 w1 ⟨rfl, hbr⟩
        have p0 := q0.next hbr
        have p1 := q1.next hbr
        have hbw1 := below_then hbw hbr
        have hjj : j = 0 ∨ j = 1 := by omega
        rcases hjj with rfl | rfl
        · have c1 := p1.cell0
          have f1 := p1.free 0
          have c1d : w1.drew.cell? ⟨b1, 0, none⟩ = some (.int .u64 (x : Int)) := c1
          have f1d : w1.drew.frozen? ⟨b1, 0, none⟩ = false := f1
          go_wp2_with fail
          go_region
          all_goals
            go_wp2_with fail
          all_goals
            exact ⟨⟨1, n, y, r2, by omega, rfl, by rw [HXT.out], hdl, (p0.far b1 0 _ (fun h => hne h.symm)).drew, (p1.set0 n).drew, (hbw1.setCell (p := ⟨b1, 0, none⟩) hg1 _).drew, Lib.hid (by rw [HJ.out, HZ2.out])⟩, by simp [intOf]⟩
        · have c1 := p1.cell1
          have f1 := p1.free 1
          have c1d : w1.drew.cell? ⟨b1, 1, none⟩ = some (.int .u64 (y : Int)) := c1
          have f1d : w1.drew.frozen? ⟨b1, 1, none⟩ = false := f1
          go_wp2_with fail
          go_region
          all_goals
            go_wp2_with fail
          all_goals
            exact ⟨⟨2, x, n, r2, by omega, rfl, by rw [HXT.out], hdl, (p0.far b1 1 _ (fun h => hne h.symm)).drew, (p1.set1 n).drew, (hbw1.setCell (p := ⟨b1, 1, none⟩) hg1 _).drew, Lib.hid (by rw [HJ.out, HO2.out])⟩, by simp [intOf]⟩
      · have HR := Lib.hid (show R = ((0, 0), [], e) by rw [HJ.out]; exact HB.out n k e he he0)
        have heb : e = 5 ∨ e = 1 := by
          rcases hbad with h | h | h
          · exact absurd h he0
          · exact Or.inl ((Prod.mk.injEq _ _ _ _).mp ((Prod.mk.injEq _ _ _ _).mp h).2).2
          · exact Or.inr ((Prod.mk.injEq _ _ _ _).mp ((Prod.mk.injEq _ _ _ _).mp h).2).2
        have hjI : (j : Int) < 2 := by omega
        generalize str r = S at *
        clear hbad hok hsr he HZ HO HB HJ
        go_wp2_with fail
        refine (HC.out).mono ?_
        rintro e2 w1 ⟨rfl, hbr⟩
        have p0 := q0.next hbr
        have hbw1 := below_then hbw hbr
        have c0 := p0.cell0
        have c0' := p0.cell1
        have f0 := p0.free 0
        have f0' := p0.free 1
        have p2 := (p0.set0 0).set1 0
        have hbw2 : Below w.heap.size w ((w1.setCell ⟨b0, 0, none⟩ (.int .u64 ((0 : Nat) : Int))).setCell ⟨b0, 1, none⟩ (.int .u64 ((0 : Nat) : Int))) := (hbw1.setCell (p := ⟨b0, 0, none⟩) hg0 _).setCell (p := ⟨b0, 1, none⟩) hg0 _
        have d1 := (p0.set0 0).cell1
        have d1f := (p0.set0 0).free 1
        have z0 := p2.cell0
        have z1 := p2.cell1
        have g1 : ((e : Int) != 0) = true := by rw [bne_iff_ne]; omega
        simp only [Int.natCast_zero] at d1 d1f z0 z1
        clear he0
        go_wp2_with fail
        refine bodyPost_ret (v := .tuple #[.agg #[.int .u64 0, .int .u64 0], .string ⟨#[]⟩, .int .i64 e]) (by simp [results, Tryz.results165, go_sem, z0, z1]) rfl ⟨by rw [HR.out]; rfl, hbw2⟩
    · obtain rfl : j = 2 := by omega
      have HR := Lib.hid (show R = ((x, y), r, 0) by rw [HJ.out]; rfl)
      clear HJ
      have c0 := q0.cell0
      have c0' := q0.cell1
      have f0 := q0.free 0
      have f0' := q0.free 1
      have e0 := q1.cell0
      have e0' := q1.cell1
      have p2 := (q0.set0 x).set1 y
      have d1 := (q0.set0 x).cell1
      have d1f := (q0.set0 x).free 1
      have z0 := p2.cell0
      have z1 := p2.cell1
      have hbw2 : Below w.heap.size w ((wr.setCell ⟨b0, 0, none⟩ (.int .u64 (x : Int))).setCell ⟨b0, 1, none⟩ (.int .u64 (y : Int))) := (hbw.setCell (p := ⟨b0, 0, none⟩) hg0 _).setCell (p := ⟨b0, 1, none⟩) hg0 _
      obtain ⟨S, hS⟩ : ∃ S, S = str r := ⟨_, rfl⟩
      have HS := Lib.hid hS
      rw [← hS]
      clear hS
      go_wp2_with fail
      refine bodyPost_ret (v := .tuple #[.agg #[.int .u64 x, .int .u64 y], .string S, .int .i64 0]) (by simp [results, Tryz.results165, go_sem, z0, z1]) rfl ⟨by rw [HR.out, HS.out]; rfl, hbw2⟩
end Go.Proofs.YtmiboibadccceaaGreat
/- The walk of front.next. -/
namespace Go.Proofs.YtmiboibadccceaaGreat
open Go.RowKit
set_option linter.unusedVariables false

def nextR (s last : List UInt8) : List UInt8 × List UInt8 × Nat :=
  if (toldR s).2.2 ≠ 0 then ([], [], (toldR s).2.2)
  else if last.length < (toldR s).1.1 then ([], [], 3)
  else if 16 - (toldR s).1.1 < (toldR s).1.2 then ([], [], 2)
  else if (toldR s).2.1.length < (toldR s).1.2 then ([], [], 5)
  else if (toldR s).1.1 < F.sh last (last.take (toldR s).1.1 ++ (toldR s).2.1.take (toldR s).1.2) then ([], [], 1)
  else (last.take (toldR s).1.1 ++ (toldR s).2.1.take (toldR s).1.2, (toldR s).2.1.drop (toldR s).1.2, 0)
def NextPost (r : List UInt8 × List UInt8 × Nat) (w : World) (e : Ending) (w' : World) : Prop :=
  e = .returned (.tuple #[.string (str r.1), .string (str r.2.1), .int .i64 (r.2.2 : Nat)]) ∧ Below w.heap.size w w'

theorem told_bd (s : List UInt8) : (toldR s).1.1 < 18446744073709551616 ∧ (toldR s).1.2 < 18446744073709551616 ∧ (toldR s).2.1.length ≤ s.length ∧ (toldR s).2.2 ≤ 5 := by
  have b1 := V.rd_bad s
  obtain ⟨n, k, e, h⟩ : ∃ n k e, V.rd s = (n, k, e) := ⟨_, _, _, rfl⟩
  unfold toldR
  rw [h] at b1
  simp only [h]
  by_cases he : e = 0
  · subst he
    have o1 := V.rd_ok _ _ _ h
    have b2 := V.rd_bad (s.drop k)
    obtain ⟨m, j, f, h2⟩ : ∃ m j f, V.rd (s.drop k) = (m, j, f) := ⟨_, _, _, rfl⟩
    rw [h2] at b2
    simp only [h2]
    by_cases hf : f = 0
    · subst hf
      have o2 := V.rd_ok _ _ _ h2
      refine ⟨?_, ?_, ?_, ?_⟩
      · simpa using o1.2.2.2.1
      · simpa using o2.2.2.2.1
      · simp
        try omega
      · simp
    · simp [hf]
      rcases b2 with c | c | c <;> simp at c <;> omega
  · simp [he]
    rcases b1 with c | c | c <;> simp at c <;> omega

set_option maxHeartbeats 1000000 in
set_option maxRecDepth 100000 in
theorem next_any (s last : List UInt8) (w : World) (hs : s.length ≤ maxLen) (hl : last.length ≤ 16) :
    Calls Tryz.prog 149 #[.string (str s), .string (str last)] w (NextPost (nextR s last) w) := by
  have hto := told_any s w hs
  unfold maxLen at hs
  have htb := told_bd s
  obtain ⟨R, HR2⟩ : ∃ R, R = nextR s last := ⟨_, rfl⟩
  rw [← HR2]
  unfold nextR at HR2
  obtain ⟨n, m, r, e, he⟩ : ∃ n m r e, toldR s = ((n, m), r, e) := ⟨_, _, _, _, rfl⟩
  rw [he] at hto htb HR2
  obtain ⟨hn, hm, hrl, he5⟩ := htb
  simp only at hn hm hrl he5
  simp only at HR2
  unfold ToldPost at hto
  simp only at hto
  have HT := Lib.hid hto
  clear hto he
  have hsl := str_size last
  have hsr := str_size r
  by_cases h0 : e = 0
  · subst h0
    rw [if_neg (by simp)] at HR2
    by_cases h1 : last.length < n
    · rw [if_pos h1] at HR2
      have HRE := Lib.hid HR2
      generalize str s = S at *
      generalize str last = L at *
      have g1 : decide (L.size < n) = true := decide_eq_true (by omega)
      have hwl : IntKind.u64.wrap (L.size : Int) = (L.size : Int) := by rw [IntKind.wrap_u64]; omega
      clear HR2 hsl hsr
      go_enter Tryz.func149, Tryz.ntmps149
      go_wp2_with fail
      refine (HT.out).mono ?_
      rintro e2 w1 ⟨rfl, hb1⟩
      go_wp2_with fail
      go_quiet (fail)
      go_wp2_with fail
      go_ret3
      exact ⟨by rw [HRE.out]; rfl, below_drewN ((Below.refl _ _).trans (hb1.alloc hb1.size _)) _⟩
    · rw [if_neg h1] at HR2
      by_cases h2 : 16 - n < m
      · rw [if_pos h2] at HR2
        have HRE := Lib.hid HR2
        generalize str s = S at *
        generalize str last = L at *
        have g1 : decide (L.size < n) = false := decide_eq_false (by omega)
        have hwl : IntKind.u64.wrap (L.size : Int) = (L.size : Int) := by rw [IntKind.wrap_u64]; omega
        have hws : IntKind.u64.wrap ((16 : Int) - (n : Int)) = ((16 - n : Nat) : Int) := by rw [IntKind.wrap_u64]; omega
        have g2 : decide (16 - n < m) = true := decide_eq_true h2
        have hnL : n ≤ L.size := by omega
        clear HR2 hsl hsr h1 h2
        go_enter Tryz.func149, Tryz.ntmps149
        go_wp2_with fail
        refine (HT.out).mono ?_
        rintro e2 w1 ⟨rfl, hb1⟩
        go_wp2_with fail
        go_quiet (fail)
        go_wp2_with fail
        go_ret3
        exact ⟨by rw [HRE.out]; rfl, below_drewN ((Below.refl _ _).trans (hb1.alloc hb1.size _)) _⟩
      · rw [if_neg h2] at HR2
        by_cases h3 : r.length < m
        · rw [if_pos h3] at HR2
          have HRE := Lib.hid HR2
          generalize str s = S at *
          generalize str last = L at *
          generalize str r = RR at *
          have g1 : decide (L.size < n) = false := decide_eq_false (by omega)
          have hwl : IntKind.u64.wrap (L.size : Int) = (L.size : Int) := by rw [IntKind.wrap_u64]; omega
          have hwr : IntKind.u64.wrap (RR.size : Int) = (RR.size : Int) := by rw [IntKind.wrap_u64]; omega
          have hws : IntKind.u64.wrap ((16 : Int) - (n : Int)) = ((16 - n : Nat) : Int) := by rw [IntKind.wrap_u64]; omega
          have g2 : decide (16 - n < m) = false := decide_eq_false h2
          have g3 : decide (RR.size < m) = true := decide_eq_true (by omega)
          have hnL : n ≤ L.size := by omega
          have HRRZ := Lib.hid hsr
          clear HR2 hsl hsr h1 h2 h3
          go_enter Tryz.func149, Tryz.ntmps149
          go_wp2_with fail
          refine (HT.out).mono ?_
          rintro e2 w1 ⟨rfl, hb1⟩
          go_wp2_with fail
          go_quiet (fail)
          go_wp2_with fail
          go_ret3
          exact ⟨by rw [HRE.out]; rfl, below_drewN ((Below.refl _ _).trans (hb1.alloc hb1.size _)) _⟩
        · rw [if_neg h3] at HR2
          have HSH := Lib.hid (fun W => shared_any last (last.take n ++ r.take m) W (by unfold maxLen; omega) (by rw [List.length_append, List.length_take, List.length_take]; unfold maxLen; omega))
          have hq16 := F.sh_le_left last (last.take n ++ r.take m)
          have HCT := Lib.hid (show str (last.take n ++ r.take m) = (str last).extract 0 n ++ (str r).extract 0 m by
            apply ByteArray.ext; apply Array.toList_inj.mp
            simp [str])
          rw [HCT.out] at HSH
          have HXT := Lib.hid (show (str r).extract m (str r).size = str (r.drop m) by
            apply ByteArray.ext; apply Array.toList_inj.mp
            rw [show ((str r).extract m (str r).size).data.toList = (str r).data.toList.drop m from cut_data _ m]; rfl)
          generalize last.take n ++ r.take m = t at *
          generalize F.sh last t = q at *
          generalize str s = S at *
          generalize str last = L at *
          generalize str r = RR at *
          have g1 : decide (L.size < n) = false := decide_eq_false (by omega)
          have hwl : IntKind.u64.wrap (L.size : Int) = (L.size : Int) := by rw [IntKind.wrap_u64]; omega
          have hwr : IntKind.u64.wrap (RR.size : Int) = (RR.size : Int) := by rw [IntKind.wrap_u64]; omega
          have hwq : IntKind.u64.wrap (q : Int) = (q : Int) := by rw [IntKind.wrap_u64]; omega
          have hws : IntKind.u64.wrap ((16 : Int) - (n : Int)) = ((16 - n : Nat) : Int) := by rw [IntKind.wrap_u64]; omega
          have g2 : decide (16 - n < m) = false := decide_eq_false h2
          have g3 : decide (RR.size < m) = false := decide_eq_false (by omega)
          have hnL : n ≤ L.size := by omega
          have hmR : m ≤ RR.size := by omega
          have hnLI : (n : Int) ≤ (L.size : Int) := by omega
          have hmRI : (m : Int) ≤ (RR.size : Int) := by omega
          have hc1 : ¬ 9223372036854775807 < min n L.size + min m RR.size := by omega
          have hc2 : ¬ 9223372036854775807 < n + m := by omega
          by_cases h4 : n < q
          · rw [if_pos h4] at HR2
            have HRE := Lib.hid HR2
            have g4 : decide (n < q) = true := decide_eq_true h4
            clear HR2 hsl hsr h1 h2 h3
            go_enter Tryz.func149, Tryz.ntmps149
            go_wp2_with fail
            refine (HT.out).mono ?_
            rintro e2 w1 ⟨rfl, hb1⟩
            go_wp2_with fail
            go_quiet (fail)
            go_wp2_with fail
            go_quiet (fail)
            go_wp2_with fail
            refine (HSH.out _).mono ?_
            rintro e2 w2 ⟨rfl, d, rfl⟩
            go_wp2_with fail
            go_ret3
            exact ⟨by rw [HRE.out]; rfl, below_drewN ((Below.refl _ _).trans (hb1.alloc hb1.size _)) _⟩
          · rw [if_neg h4] at HR2
            have HRE := Lib.hid HR2
            have g4 : decide (n < q) = false := decide_eq_false h4
            clear HR2 hsl hsr h1 h2 h3
            go_enter Tryz.func149, Tryz.ntmps149
            go_wp2_with fail
            refine (HT.out).mono ?_
            rintro e2 w1 ⟨rfl, hb1⟩
            go_wp2_with fail
            go_quiet (fail)
            go_wp2_with fail
            go_quiet (fail)
            go_wp2_with fail
            refine (HSH.out _).mono ?_
            rintro e2 w2 ⟨rfl, d, rfl⟩
            go_wp2_with fail
            go_quiet (fail)
            go_wp2_with fail
            go_ret3
            exact ⟨by rw [HRE.out]; simp only; rw [HCT.out, HXT.out]; rfl, below_drewN (below_drewN ((Below.refl _ _).trans (hb1.alloc hb1.size _)) _) _⟩
  · rw [if_pos h0] at HR2
    have HRE := Lib.hid HR2
    have g1 : ((e : Int) != 0) = true := by rw [bne_iff_ne]; omega
    clear HR2 hsl hsr
    go_enter Tryz.func149, Tryz.ntmps149
    go_wp2_with fail
    refine (HT.out).mono ?_
    rintro e2 w1 ⟨rfl, hb1⟩
    go_wp2_with fail
    go_ret3
    exact ⟨by rw [HRE.out]; rfl, (Below.refl _ _).trans (hb1.alloc hb1.size _)⟩
end Go.Proofs.YtmiboibadccceaaGreat
/- The walk of front.Read. -/
namespace Go.Proofs.YtmiboibadccceaaGreat
open Go.RowKit
set_option linter.unusedVariables false

theorem next_bd (s last : List UInt8) (hl : last.length ≤ 16) : (nextR s last).1.length ≤ 16 ∧ (nextR s last).2.1.length ≤ s.length ∧ (nextR s last).2.2 ≤ 5 := by
  obtain ⟨h1, h2, h3, h4⟩ := told_bd s
  unfold nextR
  generalize toldR s = T at *
  by_cases g0 : T.2.2 ≠ 0
  · rw [if_pos g0]; simp; omega
  rw [if_neg g0]
  by_cases g1 : last.length < T.1.1
  · rw [if_pos g1]; simp
  rw [if_neg g1]
  by_cases g2 : 16 - T.1.1 < T.1.2
  · rw [if_pos g2]; simp
  rw [if_neg g2]
  by_cases g3 : T.2.1.length < T.1.2
  · rw [if_pos g3]; simp
  rw [if_neg g3]
  by_cases g4 : T.1.1 < F.sh last (last.take T.1.1 ++ T.2.1.take T.1.2)
  · rw [if_pos g4]; simp
  rw [if_neg g4]
  refine ⟨?_, ?_, by simp⟩
  · simp only [List.length_append, List.length_take]; omega
  · simp only [List.length_drop]; omega

theorem fr_next (k : Nat) (last s : List UInt8) (hl : last.length ≤ 16) :
    F.fr (k + 1) last s = if (nextR s last).2.2 ≠ 0 then ([], (nextR s last).2.2)
      else if (F.fr k (nextR s last).1 (nextR s last).2.1).2 ≠ 0 then ([], (F.fr k (nextR s last).1 (nextR s last).2.1).2)
      else ((nextR s last).1 :: (F.fr k (nextR s last).1 (nextR s last).2.1).1, 0) := by
  rw [F.fr]
  unfold nextR toldR
  obtain ⟨n, a, e, h⟩ : ∃ n a e, V.rd s = (n, a, e) := ⟨_, _, _, rfl⟩
  simp only [h]
  by_cases he : e ≠ 0
  · simp [he]
  simp only [he, if_false]
  obtain ⟨m, b, f, h2⟩ : ∃ m b f, V.rd (s.drop a) = (m, b, f) := ⟨_, _, _, rfl⟩
  simp only [h2]
  by_cases hf : f ≠ 0
  · simp [hf]
  simp only [hf, if_false]
  have e0 : ((0 : Nat) ≠ 0) = False := by simp
  simp only [e0, if_false, List.drop_drop]
  by_cases h3 : last.length < n
  · simp [h3]
  simp only [h3, if_false]
  by_cases h4 : 16 < n + m
  · have h4' : 16 - n < m := by omega
    simp [h4, h4']
  have h4' : ¬ 16 - n < m := by omega
  simp only [h4, h4', if_false]
  by_cases h5 : (s.drop (a + b)).length < m
  · simp only [h5, if_true]; simp
  simp only [h5, if_false]
  have hge : n ≤ F.sh last (last.take n ++ (s.drop (a + b)).take m) := by
    refine F.sh_ge n _ _ (by omega) (by rw [List.length_append, List.length_take]; omega) ?_
    rw [List.take_append_of_le_length (by rw [List.length_take]; omega), List.take_take, Nat.min_self]
  by_cases h6 : F.sh last (last.take n ++ (s.drop (a + b)).take m) ≠ n
  · have h6' : n < F.sh last (last.take n ++ (s.drop (a + b)).take m) := by omega
    simp only [h6, h6', ne_eq, not_false_eq_true, if_true]; simp
  have h6' : ¬ n < F.sh last (last.take n ++ (s.drop (a + b)).take m) := by omega
  simp only [h6, h6', if_false]
  simp

def glue (acc : List (List UInt8)) (y : List (List UInt8) × Nat) : List (List UInt8) × Nat := if y.2 ≠ 0 then ([], y.2) else (acc ++ y.1, 0)
theorem glue_nil (k : Nat) (last s : List UInt8) : glue [] (F.fr k last s) = F.fr k last s := by
  unfold glue
  by_cases h : (F.fr k last s).2 ≠ 0
  · rw [if_pos h, ← F.fr_err k last s h]
  · rw [if_neg h, List.nil_append]
    have : (F.fr k last s).2 = 0 := by omega
    rw [← this]
theorem glue_bad (acc : List (List UInt8)) (k : Nat) (last s : List UInt8) (hl : last.length ≤ 16) (h : (nextR s last).2.2 ≠ 0) : glue acc (F.fr (k + 1) last s) = ([], (nextR s last).2.2) := by
  rw [fr_next k last s hl, if_pos h]; unfold glue; rw [if_pos h]
theorem glue_on (acc : List (List UInt8)) (k : Nat) (last s : List UInt8) (hl : last.length ≤ 16) (h : (nextR s last).2.2 = 0) :
    glue acc (F.fr (k + 1) last s) = glue (acc ++ [(nextR s last).1]) (F.fr k (nextR s last).1 (nextR s last).2.1) := by
  rw [fr_next k last s hl, if_neg (by omega)]
  unfold glue
  by_cases h2 : (F.fr k (nextR s last).1 (nextR s last).2.1).2 ≠ 0
  · rw [if_pos h2, if_pos h2, if_pos h2]
  · rw [if_neg h2, if_neg h2, if_neg (by simp)]; simp
theorem glue_end (acc : List (List UInt8)) (last s : List UInt8) : glue acc (F.fr 0 last s) = if s = [] then (acc, 0) else ([], 1) := by
  rw [F.fr]; unfold glue
  by_cases h : s = []
  · simp [h]
  · simp [h]

/-- what Read answers -/
def freadR (s : List UInt8) (many : Int) : List (List UInt8) × Nat := if many < 0 then ([], 3) else if 64 < many then ([], 2) else F.fr many.toNat [] s

theorem fill_step (acc : List (List UInt8)) (t : List UInt8) (n : Nat) (h : acc.length < n) : (acc ++ List.replicate (n - acc.length) []).set acc.length t = (acc ++ [t]) ++ List.replicate (n - (acc ++ [t]).length) [] := by
  rw [List.set_append_right _ _ (by omega), Nat.sub_self, show n - acc.length = (n - (acc.length + 1)) + 1 by omega, List.replicate_succ, List.set_cons_zero, List.append_assoc]
  simp

set_option maxHeartbeats 1000000 in
set_option maxRecDepth 100000 in
theorem fread_ok (s : List UInt8) (n : Nat) (w : World) (hs : s.length ≤ maxLen) (hn : n ≤ 64) :
    Calls Tryz.prog 105 #[.string (str s), .int .i64 (n : Int)] w (TextsPost (F.fr n [] s) w) := by
  obtain ⟨i0, hi, hz0, hz1, hz2⟩ := info_parts info_str
  unfold maxLen at hs
  have H0 := Lib.hid (show F.fr n [] s = glue [] (F.fr (n - ([] : List (List UInt8)).length) [] s) by rw [glue_nil]; rfl)
  obtain ⟨R, hR⟩ : ∃ R, R = F.fr n [] s := ⟨_, rfl⟩
  rw [← hR] at H0 ⊢
  clear hR
  have g1 : decide ((64 : Int) < (n : Int)) = false := decide_eq_false (by omega)
  have g2 : decide ((n : Int) < 0) = false := decide_eq_false (by omega)
  go_enter Tryz.func105, Tryz.ntmps105
  go_wp2_with (at_make; refine wpList_make_full _ rfl _ _ 31 rfl w.heap.size 9 i0 (.string ByteArray.empty) 1 Tryz.underlying31 hi hz0 hz1 .i64 .i64 _ _ n rfl rfl rfl rfl (by rw [hz2]; omega) (by unfold maxLen; omega) (Nat.le_refl _) ?_; intro w0 hown0 hgrow0)
  have hb0 : Below w.heap.size w w0 := (Below.refl _ _).grown hgrow0 (Nat.le_refl _) (fun k hk => by cases hk)
  have hrow := made_trow hown0
  obtain ⟨g, hg⟩ : ∃ g, g = w.heap.size := ⟨_, rfl⟩
  have hgl : w.heap.size ≤ g := by omega
  rw [← hg] at hrow ⊢
  have hrow' : TRow w.heap.size (List.replicate n []) (.slice (some ⟨g, 0, none⟩) n n) w0 := by rw [← hg]; exact hrow
  clear hown0 hgrow0 hrow hg
  go_loopw [0, 7, 8, 9, 10, 11, 20] (fun t b _ _ _ _ i wr => ∃ (acc : List (List UInt8)) (last r : List UInt8), acc.length ≤ n ∧ i = .int .i64 (acc.length : Nat) ∧ t = .string (str r) ∧ b = .string (str last) ∧ last.length ≤ 16 ∧ r.length ≤ 9223372036854775807 ∧ TRow w.heap.size (acc ++ List.replicate (n - acc.length) []) (.slice (some ⟨g, 0, none⟩) n n) wr ∧ Below w.heap.size w wr ∧ Hid (R = glue acc (F.fr (n - acc.length) last r))) (fun _ _ _ _ _ _ i _ => n - (intOf i).toNat)
  case atStart => exact ⟨[], [], s, by simp, rfl, rfl, rfl, by simp, by omega, hrow', hb0, H0⟩
  case round =>
    obtain ⟨acc, last, r, hj, rfl, rfl, rfl, hl, hr, hrw, hbw, HJ⟩ := hrel
    clear hrow' hb0
    obtain ⟨j, hj2⟩ : ∃ j, j = acc.length := ⟨_, rfl⟩
    rw [← hj2] at hj HJ hrw ⊢
    have HJ2 := Lib.hid hj2
    clear hj2
    by_cases hlt : j < n
    · have hnx := next_any r last wr (by unfold maxLen; omega) hl
      obtain ⟨b1, b2, b3⟩ := next_bd r last hl
      have HGB := Lib.hid (glue_bad acc (n - (j + 1)) last r hl)
      have HGO := Lib.hid (glue_on acc (n - (j + 1)) last r hl)
      rw [show n - (j + 1) + 1 = n - j by omega] at HGB HGO
      unfold NextPost at hnx
      obtain ⟨t, q, e, he⟩ : ∃ t q e, nextR r last = (t, q, e) := ⟨_, _, _, rfl⟩
      rw [he] at hnx b1 b2 b3 HGB HGO
      simp only at hnx b1 b2 b3 HGB HGO
      have HN := Lib.hid hnx
      have HFS := Lib.hid (show (acc ++ List.replicate (n - j) []).set j t = (acc ++ [t]) ++ List.replicate (n - (acc ++ [t]).length) [] by have h2 := HJ2.out; rw [h2]; exact fill_step acc t n (by omega))
      have HL2 := Lib.hid (show (acc ++ [t]).length = j + 1 by have h2 := HJ2.out; rw [h2]; simp)
      have hjI : (j : Int) < (n : Int) := by omega
      clear hnx he
      by_cases h0 : e = 0
      · subst h0
        have HRN := Lib.hid (show R = glue (acc ++ [t]) (F.fr (n - (j + 1)) t q) by rw [HJ.out]; exact HGO.out rfl)
        clear HGB HGO HJ
        go_wp2_with fail
        refine (HN.out).mono ?_
        rintro e2 w1 ⟨rfl, hb1⟩
        have hrw1 := hrw.below hb1
        have c1 := hrw1.cell j (by rw [List.length_append, List.length_replicate]; have := HJ2.out; omega)
        have f1 := hrw1.free j
        have hrw2 := hrw1.put j t
        rw [HFS.out] at hrw2
        have hbw2 : Below w.heap.size w (w1.setCell ⟨g, j, none⟩ (.string (str t))) := (below_then hbw hb1).setCell (p := ⟨g, j, none⟩) hgl _
        generalize (acc ++ List.replicate (n - j) []).getD j [] = old at *
        have HRW := Lib.hid hrw2
        clear hrw hrw1 hrw2
        go_wp2_with fail
        exact ⟨⟨acc ++ [t], t, q, by rw [HL2.out]; omega, by rw [HL2.out]; go_num, rfl, rfl, b1, by omega, HRW.out, hbw2, Lib.hid (by rw [HL2.out]; exact HRN.out)⟩, by simp [intOf]; omega⟩
      · have HRN := Lib.hid (show R = ([], e) by rw [HJ.out]; exact HGB.out h0)
        have g3 : ((e : Int) != 0) = true := by rw [bne_iff_ne]; omega
        clear HGB HGO HJ
        go_wp2_with fail
        refine (HN.out).mono ?_
        rintro e2 w1 ⟨rfl, hb1⟩
        go_wp2_with fail
        go_ret2
        rw [HRN.out]
        exact TextsPost.none _ (below_then hbw hb1)
    · obtain rfl : j = n := by omega
      rw [Nat.sub_self, glue_end] at HJ
      rw [Nat.sub_self, List.replicate_zero, List.append_nil] at hrw
      have hsr := str_size r
      by_cases hr0 : r = []
      · subst hr0
        have HRN := Lib.hid (show R = (acc, 0) by rw [HJ.out, if_pos rfl])
        obtain ⟨htx, hnl⟩ := hrw.txts
        have hne : (str []).toList.isEmpty = true := by rw [str_toList]; rfl
        clear HJ hrw
        go_wp2_with fail
        go_ret2
        rw [HRN.out]
        exact ⟨_, _, by simp only; rw [← HJ2.out]; rfl, htx, hbw⟩
      · have HRN := Lib.hid (show R = ([], 1) by rw [HJ.out, if_neg hr0])
        have hne : (str r).toList.isEmpty = false := by
          rw [str_toList]
          cases r with
          | nil => exact absurd rfl hr0
          | cons x t => rfl
        generalize str r = S at *
        clear HJ hrw
        go_wp2_with fail
        go_ret2
        rw [HRN.out]
        exact TextsPost.none 1 hbw

set_option maxHeartbeats 400000 in
theorem fread_low (s : ByteArray) (n : Int) (w : World) (hn : n < 0) :
    Calls Tryz.prog 105 #[.string s, .int .i64 n] w (TextsPost ([], 3) w) := by
  go_enter Tryz.func105, Tryz.ntmps105
  go_wp2_with fail
  go_ret2
  exact TextsPost.none 3 (Below.refl _ _)
set_option maxHeartbeats 400000 in
theorem fread_high (s : ByteArray) (n : Int) (w : World) (h0 : ¬ n < 0) (hn : 64 < n) :
    Calls Tryz.prog 105 #[.string s, .int .i64 n] w (TextsPost ([], 2) w) := by
  go_enter Tryz.func105, Tryz.ntmps105
  go_wp2_with fail
  go_ret2
  exact TextsPost.none 2 (Below.refl _ _)

theorem fread_any (s : List UInt8) (n : Int) (w : World) (hs : s.length ≤ maxLen) :
    Calls Tryz.prog 105 #[.string (str s), .int .i64 n] w (TextsPost (freadR s n) w) := by
  unfold freadR
  by_cases h0 : n < 0
  · rw [if_pos h0]; exact fread_low _ n w h0
  rw [if_neg h0]
  by_cases h1 : 64 < n
  · rw [if_pos h1]; exact fread_high _ n w h0 h1
  rw [if_neg h1]
  have := fread_ok s n.toNat w hs (by omega)
  rwa [show ((n.toNat : Nat) : Int) = n by omega] at this
end Go.Proofs.YtmiboibadccceaaGreat
/- The walk of hypostyleref.SharedOf. -/
namespace Go.Proofs.YtmiboibadccceaaGreat
open Go.RowKit
set_option linter.unusedVariables false

theorem sh_stop {x y : List UInt8} {k : Nat} (h1 : F.sh x y ≤ k) (h2 : k ≤ x.length) (h3 : k ≤ y.length) (h : x.take k = y.take k) : F.sh x y = k := by
  have := F.sh_ge k x y h2 h3 h; omega
theorem sh_on {x y : List UInt8} {k : Nat} (h1 : F.sh x y ≤ k) (h : x.take k ≠ y.take k) : F.sh x y ≤ k - 1 ∧ 1 ≤ k := by
  have h2 : F.sh x y ≠ k := fun e => h (by rw [← e]; exact F.sh_take x y)
  have h3 : k ≠ 0 := fun e => h (by rw [e]; simp)
  omega

set_option maxHeartbeats 1000000 in
set_option maxRecDepth 100000 in
theorem sharedOf_any (x y : List UInt8) (w : World) (hx : x.length ≤ maxLen) (hy : y.length ≤ maxLen) :
    Calls Tryz.prog 98 #[.string (str x), .string (str y)] w fun e w' => e = .returned (.int .i64 (F.sh x y : Nat)) ∧ ∃ d, w' = w.drewN d := by
  unfold maxLen at hx hy
  have hsx := str_size x
  have hsy := str_size y
  have H0 := F.sh_le_left x y
  have HT := Lib.hid (fun k => show ((str x).extract 0 k).toList = x.take k by rw [ByteArray.toList_eq, take_data]; rfl)
  have HU := Lib.hid (fun k => show ((str y).extract 0 k).toList = y.take k by rw [ByteArray.toList_eq, take_data]; rfl)
  have HST := Lib.hid (fun k (h1 : F.sh x y ≤ k) (h2 : k ≤ x.length) (h3 : k ≤ y.length) h => sh_stop h1 h2 h3 h)
  have HON := Lib.hid (fun k (h1 : F.sh x y ≤ k) h => sh_on h1 h)
  have HRB := Lib.hid (F.sh_le_right x y)
  generalize F.sh x y = R at *
  generalize str x = X at *
  generalize str y = Y at *
  have HSX := Lib.hid hsx
  have HSY := Lib.hid hsy
  have H0' := Lib.hid (show R ≤ X.size by omega)
  have hX : X.size ≤ 9223372036854775807 := by omega
  have hY : Y.size ≤ 9223372036854775807 := by omega
  clear hsx hsy hx hy H0
  go_enter Tryz.func98, Tryz.ntmps98
  go_wp2_with fail
  go_loopw [5] (fun i wr => ∃ k d : Nat, k ≤ X.size ∧ i = .int .i64 k ∧ wr = w.drewN d ∧ Hid (R ≤ k)) (fun i _ => (intOf i).toNat)
  case atStart => exact ⟨X.size, 0, by omega, rfl, rfl, H0'⟩
  case round =>
    obtain ⟨k, d, hk, rfl, rfl, HJ⟩ := hrel
    have hkI : (k : Int) ≤ (X.size : Int) := by omega
    by_cases hgt : Y.size < k
    · have g1 : decide ((Y.size : Int) < (k : Int)) = true := decide_eq_true (by omega)
      have HN := Lib.hid (show R ≤ k - 1 by have := HRB.out; have := HSY.out; omega)
      have hsub : IntKind.i64.wrap ((k : Int) - 1) = ((k - 1 : Nat) : Int) := by rw [IntKind.wrap_i64]; omega
      go_wp2_with fail
      go_quiet (fail)
      go_wp2_with fail
      exact ⟨⟨k - 1, d + nq, by omega, by congr 1; try omega, by first | rfl | exact World.drewN_drewN _ _ _, HN⟩, by simp [intOf]; omega⟩
    · have g1 : decide (Y.size < k) = false := decide_eq_false (by omega)
      have hk2 : (k : Int) ≤ (Y.size : Int) := by omega
      by_cases hq : x.take k = y.take k
      · have g2 : ((X.extract 0 k).toList == (Y.extract 0 k).toList) = true := by rw [HT.out, HU.out, beq_iff_eq]; exact hq
        have HR := Lib.hid (HST.out k HJ.out (by have := HSX.out; omega) (by have := HSY.out; omega) hq)
        clear hq
        go_wp2_with fail
        go_quiet (fail)
        go_wp2_with fail
        go_ret
        exact ⟨by rw [HR.out]; rfl, _, by first | rfl | simp only [World.drewN_drewN] ; rfl⟩
      · have g2 : ((X.extract 0 k).toList == (Y.extract 0 k).toList) = false := by rw [HT.out, HU.out, beq_eq_false_iff_ne]; exact hq
        obtain ⟨hn, hk1⟩ := HON.out k HJ.out hq
        have HN := Lib.hid hn
        clear hq hn
        go_wp2_with fail
        go_quiet (fail)
        go_wp2_with fail
        exact ⟨⟨k - 1, d + nq, by omega, by congr 1; try omega, by first | rfl | exact World.drewN_drewN _ _ _, HN⟩, by simp [intOf]; omega⟩
end Go.Proofs.YtmiboibadccceaaGreat
