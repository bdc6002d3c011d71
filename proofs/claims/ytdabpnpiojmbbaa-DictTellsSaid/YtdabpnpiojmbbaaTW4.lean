/- The walks of dict.Texts, dict.sorted. -/
import Derived.Test.YtdabpnpiojmbbaaTW3
import Derived.Test.YtdabpnpiojmbbaaShelfSort
import Derived.Sort.OwnSorted
import Derived.Sort.Grow
import Derived.Lib.OwnBridge
namespace Go.Proofs.Ytdabpnpiojmbbaa
open Go.RowKit
set_option linter.unusedVariables false

def textsR (b : List (List UInt8)) (cs : List Nat) : List (List UInt8) × Nat :=
  if bookR b ≠ 0 then ([], bookR b) else if 64 < cs.length then ([], 2) else if cs.any (fun c => decide (b.length ≤ c)) then ([], 3) else (cs.map fun c => b.getD c [], 0)
def TextsPost (r : List (List UInt8) × Nat) (w : World) (e : Ending) (w' : World) : Prop :=
  ∃ a c, e = .returned (.tuple #[.slice a r.1.length c, .int .i64 r.2]) ∧ Txts w' w'.heap.size a r.1 ∧ Below w.heap.size w w'
theorem TextsPost.none {w w' : World} (er : Nat) (h : Below w.heap.size w w') : TextsPost ([], er) w (.returned (.tuple #[.slice none 0 0, .int .i64 er])) w' :=
  ⟨Option.none, 0, rfl, Txts.nil _ _ _, h⟩

theorem made_trow {w' : World} {g n B' : Nat} (h : w'.ownsRow B' 9 1 (.slice (some ⟨g, 0, none⟩) n n) n (madeCells (Value.string ByteArray.empty).cells (n * 1)).toList) : TRow B' (List.replicate n []) (.slice (some ⟨g, 0, none⟩) n n) w' := by
  unfold TRow
  rw [List.length_replicate]
  have e : tv (List.replicate n []) = (madeCells (Value.string ByteArray.empty).cells (n * 1)).toList := by
    apply List.ext_getElem
    · simp [madeCells, tv]
    · intro i h1 h2
      simp [madeCells, tv, Value.cells, Nat.mod_one]
      rfl
  rw [e]; exact h
theorem TRow.put {B : Nat} {xs : List (List UInt8)} {g n c : Nat} {w : World} (h : TRow B xs (.slice (some ⟨g, 0, none⟩) n c) w) (i : Nat) (x : List UInt8) : TRow B (xs.set i x) (.slice (some ⟨g, 0, none⟩) n c) (w.setCell ⟨g, i, none⟩ (.string (str x))) := by
  obtain ⟨a', c', e, _⟩ := tRow_txts h
  injection e with e1 e2 e3
  subst e2
  unfold TRow at *
  have := (h.stored i (.string (str x))).1
  rw [List.length_set]
  have e : tv (xs.set i x) = (tv xs).set i (.string (str x)) := by simp [tv, List.map_set]
  rw [e]; exact this
theorem TRow.txts {B : Nat} {xs : List (List UInt8)} {a : Option Addr} {n c : Nat} {w : World} (h : TRow B xs (.slice a n c) w) : Txts w w.heap.size a xs ∧ n = xs.length := by
  obtain ⟨a', c', e, hn, _⟩ := tRow_txts h
  injection e with e1 e2 e3
  rw [e1]; exact ⟨hn, e2⟩

theorem get_step (f : Nat → List UInt8) (cs : List Nat) (j : Nat) (hj : j < cs.length) :
    ((cs.take j).map f ++ List.replicate (cs.length - j) []).set j (f (cs.getD j 0)) = (cs.take (j + 1)).map f ++ List.replicate (cs.length - (j + 1)) [] := by
  have hl : ((cs.take j).map f).length = j := by simp; omega
  have e : cs.take (j + 1) = cs.take j ++ [cs.getD j 0] := by
    rw [List.take_succ_eq_append_getElem hj]; simp [List.getD, List.getElem?_eq_getElem hj]
  rw [List.set_append_right _ _ (by omega), hl, Nat.sub_self, show cs.length - j = (cs.length - (j + 1)) + 1 by omega, List.replicate_succ, List.set_cons_zero, e, List.map_append, List.append_assoc]
  rfl
theorem get_len (f : Nat → List UInt8) (cs : List Nat) (j : Nat) (hj : j ≤ cs.length) : ((cs.take j).map f ++ List.replicate (cs.length - j) []).length = cs.length := by simp; omega

/-- so far each is a place -/
def Plcs (cs : List Nat) (n k : Nat) : Prop := ∀ i, i < k → cs.getD i 0 < n
theorem Plcs.all {cs : List Nat} {n : Nat} (h : Plcs cs n cs.length) : cs.any (fun c => decide (n ≤ c)) = false := by
  rw [List.any_eq_false]
  intro x hx
  obtain ⟨i, hi, rfl⟩ := List.mem_iff_getElem.1 hx
  have := h i hi
  simp only [List.getD, List.getElem?_eq_getElem hi, Option.getD_some] at this
  simp; omega
theorem Plcs.succ {cs : List Nat} {n k : Nat} (h : Plcs cs n k) (hk : cs.getD k 0 < n) : Plcs cs n (k + 1) := by
  intro i hi
  by_cases e : i = k
  · rw [e]; exact hk
  · exact h i (by omega)

set_option maxHeartbeats 2000000 in
set_option maxRecDepth 100000 in
theorem dtexts_any (a : Option Addr) (c : Nat) (b : List (List UInt8)) (a2 : Option Addr) (c2 : Nat) (cs : List Nat) (w : World) (hx : ∀ x ∈ cs, x < 18446744073709551616) (hu : Txts w w.heap.size a b) (hu2 : Nums w w.heap.size a2 cs) :
    Calls Try.prog 17 #[.slice a b.length c, .slice a2 cs.length c2] w (TextsPost (textsR b cs) w) := by
  obtain ⟨i0, hi, hz0, hz1, hz2⟩ := info_parts info_str
  have HCK := Lib.hid (dcheck_any a c b w hu)
  unfold textsR
  by_cases hr : bookR b ≠ 0
  · rw [if_pos hr]
    generalize bookR b = er at *
    have g1 : ((er : Int) != 0) = true := by rw [bne_iff_ne]; omega
    clear hu hu2 hx
    go_enter Try.func17, Try.ntmps17
    go_wp2_with fail
    refine (HCK.out).mono ?_
    rintro e w1 ⟨rfl, hb1⟩
    go_wp2_with fail
    go_ret2
    exact TextsPost.none er hb1
  rw [if_neg hr]
  have hr0 : bookR b = 0 := by omega
  rw [hr0] at HCK
  have hbl := (bookR_len hr0).1
  by_cases h64 : 64 < cs.length
  · rw [if_pos h64]
    have g2 : decide ((64 : Int) < (cs.length : Int)) = true := decide_eq_true (by omega)
    clear hu hu2 hx hr hr0
    go_enter Try.func17, Try.ntmps17
    go_wp2_with fail
    refine (HCK.out).mono ?_
    rintro e w1 ⟨rfl, hb1⟩
    go_wp2_with fail
    go_ret2
    exact TextsPost.none 2 hb1
  rw [if_neg h64]
  have g2 : decide ((64 : Int) < (cs.length : Int)) = false := decide_eq_false (by omega)
  have HU := Lib.hid hu
  have HU2 := Lib.hid hu2
  have HX := Lib.hid (fun j (h : j < cs.length) => hx _ (getD_mem cs j h))
  obtain ⟨f, hf⟩ : ∃ f : Nat → List UInt8, f = fun c => b.getD c [] := ⟨_, rfl⟩
  have HFV := Lib.hid (fun c => show f c = b.getD c [] by rw [hf])
  rw [← hf]
  obtain ⟨R, hR⟩ : ∃ R, R = (if cs.any (fun c => decide (b.length ≤ c)) then (([] : List (List UInt8)), 3) else (cs.map f, 0)) := ⟨_, rfl⟩
  rw [← hR]
  have HBAD := Lib.hid (fun j (h : j < cs.length) (hj : b.length ≤ cs.getD j 0) => show R = ([], 3) by
    rw [hR, if_pos]; exact List.any_eq_true.2 ⟨_, getD_mem cs j h, by simpa using hj⟩)
  have HGOOD := Lib.hid (fun (h : Plcs cs b.length cs.length) => show R = (cs.map f, 0) by rw [hR, h.all, if_neg (by simp)])
  have HST := Lib.hid (fun j h => get_step f cs j h)
  have HLN := Lib.hid (fun j h => get_len f cs j h)
  have HEND := Lib.hid (show (cs.take cs.length).map f ++ List.replicate (cs.length - cs.length) [] = cs.map f by rw [List.take_length, Nat.sub_self]; simp)
  have HML := Lib.hid (show (cs.map f).length = cs.length by simp)
  have hcl : cs.length ≤ 64 := by omega
  have hwl : IntKind.u64.wrap (b.length : Int) = (b.length : Int) := by rw [IntKind.wrap_u64]; omega
  clear hu hu2 hx hr hr0 hf hR h64
  go_enter Try.func17, Try.ntmps17
  go_wp2_with fail
  refine (HCK.out).mono ?_
  rintro e w1 ⟨rfl, hb1⟩
  go_wp2_with (at_make; refine wpList_make_full _ rfl _ _ 22 rfl w1.heap.size 9 i0 (.string ByteArray.empty) 1 Try.underlying22 hi hz0 hz1 .i64 .i64 _ _ cs.length rfl rfl rfl rfl (by rw [hz2]; omega) (by unfold maxLen; omega) (Nat.le_refl _) ?_; intro w0 hown0 hgrow0)
  have hb0 : Below w1.heap.size w1 w0 := (Below.refl _ _).grown hgrow0 (Nat.le_refl _) (fun k hk => by cases hk)
  have hrow0 := made_trow hown0
  obtain ⟨g, hg⟩ : ∃ g, g = w1.heap.size := ⟨_, rfl⟩
  rw [← hg] at hrow0 ⊢
  have hgl : w1.heap.size ≤ g := by omega
  have hgw : w.heap.size ≤ g := by have := hb1.size; omega
  have hbw0 := below_then hb1 hb0
  clear hg hown0 hgrow0
  go_wp2_with fail
  go_loopw [8, 9, 23] (fun _ _ i wr => ∃ j : Nat, j ≤ cs.length ∧ i = .int .i64 j ∧ Hid (Plcs cs b.length j) ∧ TRow g ((cs.take j).map f ++ List.replicate (cs.length - j) []) (.slice (some ⟨g, 0, none⟩) cs.length cs.length) wr ∧ Below w.heap.size w wr) (fun _ _ i _ => cs.length - (intOf i).toNat)
  case atStart => exact ⟨0, by omega, rfl, Lib.hid (fun i hi => absurd hi (by omega)), by simpa using hrow0, hbw0⟩
  case round =>
    obtain ⟨j, hj, rfl, HPL, hrow, hbw⟩ := hrel
    by_cases hlt : j < cs.length
    · obtain ⟨bb, off, rfl, hbb, hcc⟩ := HU2.out (fun e => by rw [e] at hlt; simp at hlt)
      have cj := (hbw.cell (p := ⟨bb, off + j, none⟩) hbb).trans (hcc j hlt)
      have hxj := HX.out j hlt
      have HS := Lib.hid (HST.out j hlt)
      have hln := HLN.out j hj
      have HBJ := Lib.hid (HBAD.out j hlt)
      have HPS := Lib.hid (fun h => HPL.out.succ h)
      have hfv := HFV.out (cs.getD j 0)
      generalize cs.getD j 0 = x at *
      have hjI : (j : Int) < (cs.length : Int) := by omega
      clear hcc
      by_cases hge : b.length ≤ x
      · have g3 : decide (b.length ≤ x) = true := decide_eq_true hge
        have HB3 := Lib.hid (HBJ.out hge)
        clear hge hln hfv
        go_wp2_with fail
        go_ret2
        rw [HB3.out]
        exact TextsPost.none 3 hbw
      · have g3 : decide (b.length ≤ x) = false := decide_eq_false hge
        have HPN := Lib.hid (HPS.out (by omega))
        have hxb : x < b.length := by omega
        have hxI : (x : Int) < (b.length : Int) := by omega
        obtain ⟨b1, off1, rfl, hb1l, hcc1⟩ := HU.out (fun e => by rw [e] at hxb; simp at hxb)
        have cx := (hbw.cell (p := ⟨b1, off1 + x, none⟩) hb1l).trans (hcc1 x hxb)
        rw [← hfv] at cx
        generalize (cs.take j).map f ++ List.replicate (cs.length - j) [] = acc at *
        generalize f x = y at *
        have cg := hrow.cell j (by omega)
        have fg := hrow.free j
        have HR2 := Lib.hid (hrow.put j y)
        have HBW2 := Lib.hid (hbw.setCell (p := ⟨g, j, none⟩) hgw (.string (str y)))
        generalize acc.getD j [] = oz at *
        generalize str y = Y at *
        generalize str oz = OZ at *
        clear hge hln hfv hcc1 hrow
        go_wp2_with fail
        exact ⟨⟨j + 1, by omega, by go_num, HPN, by rw [← HS.out]; exact HR2.out, HBW2.out⟩, by simp [intOf]; omega⟩
    · obtain rfl : j = cs.length := by omega
      rw [HEND.out] at hrow
      have HT := Lib.hid hrow.txts.1
      have HRS := Lib.hid (HGOOD.out HPL.out)
      clear hrow
      go_wp2_with fail
      go_ret2
      rw [HRS.out]
      exact ⟨some ⟨g, 0, none⟩, cs.length, by rw [HML.out]; rfl, HT.out, hbw⟩

/-- what sorted leaves -/
def SortPost (l : List (List UInt8)) (w : World) (e : Ending) (w' : World) : Prop :=
  ∃ a c, e = .returned (.slice a (T.bk l).length c) ∧ TRow w.heap.size (T.bk l) (.slice a (T.bk l).length c) w' ∧ Below w.heap.size w w'

set_option maxHeartbeats 2000000 in
set_option maxRecDepth 100000 in
theorem dsorted_nil (a : Option Addr) (c : Nat) (w : World) :
    Calls Try.prog 23 #[.slice a 0 c] w (SortPost [] w) := by
  have HS := Lib.hid (fun p cap W => show Calls Try.prog 33 #[.slice p 0 cap] W (fun e w' => e = .returned (.tuple #[]) ∧ w' = W) from Go.Proofs.Any.slices_Sort_string_none Try.lays190 p cap W)
  have HC := Lib.hid (fun p cap W => Try.slices_Compact_string_empty p cap W)
  have HBK := Lib.hid (show T.bk [] = [] by simp [T.bk, Lib.compact, Lib.compactUpTo])
  match a with
  | none =>
    have HN := Lib.hid (Try.slices_Clone_string_nil 0 c w)
    go_enter Try.func23, Try.ntmps23
    go_wp2_with fail
    refine (HN.out).mono ?_
    rintro e w1 ⟨rfl, rfl⟩
    go_wp2_with fail
    refine (HS.out _ _ _).mono ?_
    rintro e w2 ⟨rfl, rfl⟩
    go_wp2_with fail
    refine (HC.out _ _ _).mono ?_
    rintro e w3 ⟨rfl, rfl⟩
    go_wp2_with fail
    go_ret
    exact ⟨none, 0, by rw [HBK.out]; rfl, by rw [HBK.out]; exact tnilRow _ _, Below.refl _ _⟩
  | some ad =>
    have HN := Lib.hid (Try.slices_Clone_string_zero ad c w)
    go_enter Try.func23, Try.ntmps23
    go_wp2_with fail
    refine (HN.out).mono ?_
    rintro e w1 ⟨v1, rfl, hown, hne, hb1⟩
    obtain ⟨a1, c1, rfl, _, _, _⟩ := tRow_txts (xs := []) hown
    have HO := Lib.hid hown
    clear hown hne
    go_wp2_with fail
    refine (HS.out _ _ _).mono ?_
    rintro e w2 ⟨rfl, rfl⟩
    go_wp2_with fail
    refine (HC.out _ _ _).mono ?_
    rintro e w3 ⟨rfl, rfl⟩
    go_wp2_with fail
    go_ret
    exact ⟨a1, c1, by rw [HBK.out]; rfl, by rw [HBK.out]; exact HO.out, hb1⟩

/-- from what the three contracts leave to a row of the call's own -/
theorem sort_end {w w1 : World} {g cap nn q : Nat} {os : Array Obj} {l : List (List UInt8)} (hrow : TRow w.heap.size l (.slice (some ⟨g, 0, none⟩) l.length cap) w1) (hb : Below w.heap.size w w1) :
    TRow w.heap.size (T.bk l) (.slice (some ⟨g, 0, none⟩) (T.bk l).length cap) (Go.Sort.putRow encStr (Go.Sort.ahead (Go.Sort.grow (Go.Sort.putRow encStr (Go.Sort.ahead w1 nn) g 0 (l.mergeSort fun x y => decide (x ≤ y)).toArray) os) q) g 0 (T.bk l ++ List.replicate (l.length - (T.bk l).length) []).toArray) ∧
    Below w.heap.size w (Go.Sort.putRow encStr (Go.Sort.ahead (Go.Sort.grow (Go.Sort.putRow encStr (Go.Sort.ahead w1 nn) g 0 (l.mergeSort fun x y => decide (x ≤ y)).toArray) os) q) g 0 (T.bk l ++ List.replicate (l.length - (T.bk l).length) []).toArray) := by
  have hsl : (l.mergeSort fun x y => decide (x ≤ y)).length = l.length := List.length_mergeSort l
  have hbl : (T.bk l).length ≤ l.length := by rw [← hsl]; exact Lib.compact_length_le _
  unfold TRow at hrow
  rcases hrow.2 with ⟨he, _⟩ | ⟨g', cap', cur, hv, hbase, hblk, h1, h2, h3, h4⟩
  · cases he
  cases hv
  have k1 := Go.ownsRow_sorted (n := nn) (os := os) (ts := l.mergeSort fun x y => decide (x ≤ y)) hsl hbase hblk h1 h2 h3
  have k2 := Lib.ownsRow_putRow (q := q) (k := (T.bk l).length) (ys := T.bk l ++ List.replicate (l.length - (T.bk l).length) []) k1 (by simp; omega) (by omega)
  rw [List.take_left] at k2
  exact ⟨k2, Lib.below_putRow (hb.grown (Go.grownBy_sorted _) hb.size (fun j hj => by cases hj; exact hbase)) hbase⟩

set_option maxHeartbeats 2000000 in
set_option maxRecDepth 100000 in
theorem dsorted_some (b off c : Nat) (l : List (List UInt8)) (w : World) (hl : l.length ≤ 64) (h0 : 0 < l.length) (hc : ∀ i, i < l.length → w.cell? ⟨b, off + i, none⟩ = some (.string (str (l.getD i [])))) :
    Calls Try.prog 23 #[.slice (some ⟨b, off, none⟩) l.length c] w (SortPost l w) := by
  have hcl := Try.slices_Clone_string b off l.length c (l.map str) w (by simp) (by omega) (by
    intro j hj
    have hj' : j < l.length := by simpa using hj
    rw [hc j hj']
    simp [List.getD, List.getElem?_eq_getElem hj'])
  have e : ((l.map str).take l.length).map Value.string = tv l := by
    rw [List.take_of_length_le (by simp), List.map_map]; rfl
  rw [e] at hcl
  have HCL := Lib.hid hcl
  have hsl : (l.mergeSort fun x y => decide (x ≤ y)).length = l.length := List.length_mergeSort l
  have HSL := Lib.hid hsl
  have HBK := Lib.hid (show Lib.compact (l.mergeSort fun x y => decide (x ≤ y)) = T.bk l from rfl)
  clear hcl e hsl hc
  go_enter Try.func23, Try.ntmps23
  go_wp2_with fail
  refine (HCL.out).mono ?_
  rintro e w1 ⟨v1, rfl, hown, hne, hb1⟩
  obtain ⟨a1, c1, rfl, _, hlc1, hcm1⟩ := tRow_txts (xs := l) hown
  have hrow : TRow w.heap.size l (.slice a1 l.length c1) w1 := hown
  obtain ⟨g, rfl, hcl1, hgw, hgs⟩ := hrow.form (fun e => by rw [e] at h0; simp at h0)
  have hH : Go.Sort.Holds encStr w1 g 0 l.toArray := by
    intro j hj
    have hj' : j < l.length := by simpa using hj
    have h1 := hrow.cell j hj'
    have h2 := hrow.free j
    rw [Nat.zero_add, h1, h2]
    refine ⟨?_, rfl⟩
    simp [List.getD, hj', str]
  have HSO := Lib.hid (Try.slices_Sort_string g 0 c1 l w1 hH hgs (by omega))
  have HROW := Lib.hid hrow
  have HH := Lib.hid hH
  clear hown hne hrow hH hcl1
  go_wp2_with fail
  refine (HSO.out).mono ?_
  rintro e w2 ⟨rfl, nn, os, rfl⟩
  have hH2 : Go.Sort.Holds encStr (Go.Sort.grow (Go.Sort.putRow encStr (Go.Sort.ahead w1 nn) g 0 (l.mergeSort fun x y => decide (x ≤ y)).toArray) os) g 0 (l.mergeSort fun x y => decide (x ≤ y)).toArray :=
    Go.Sort.holds_grow encStr _ os g 0 _ (by simpa [Go.Sort.putRow, Go.Sort.mapBlock, Go.Sort.ahead] using hgs) (Go.Sort.holds_putRow encStr _ g 0 _ _ (Go.Sort.holds_ahead encStr w1 nn g 0 _ HH.out) (by simp))
  have hcm := Try.slices_Compact_string g 0 c1 (l.mergeSort fun x y => decide (x ≤ y)) _ hH2 (by rw [HSL.out]; omega) (by rw [HSL.out]; exact hlc1)
  rw [HSL.out, HBK.out] at hcm
  have HCM := Lib.hid hcm
  clear hH2 hcm
  go_wp2_with fail
  refine (HCM.out).mono ?_
  rintro e w3 ⟨rfl, q, rfl⟩
  have hend := sort_end (nn := nn) (q := q) (os := os) HROW.out hb1
  have HE := Lib.hid hend
  clear hend
  go_wp2_with fail
  go_ret
  exact ⟨some ⟨g, 0, none⟩, c1, rfl, HE.out.1, HE.out.2⟩

theorem dsorted_any (a : Option Addr) (c : Nat) (l : List (List UInt8)) (w : World) (hl : l.length ≤ 64) (hu : Txts w w.heap.size a l) :
    Calls Try.prog 23 #[.slice a l.length c] w (SortPost l w) := by
  by_cases h : l = []
  · subst h; exact dsorted_nil a c w
  · obtain ⟨b, off, rfl, hb, hc⟩ := hu h
    exact dsorted_some b off c l w hl (by cases l with
      | nil => exact absurd rfl h
      | cons x t => simp) hc
end Go.Proofs.Ytdabpnpiojmbbaa
