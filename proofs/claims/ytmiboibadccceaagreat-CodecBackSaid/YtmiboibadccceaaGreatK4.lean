/- DW6, Step, DR1, DR2, DR3, PPlain, PW0, PW1, PW2, PW4, PW5, PW6, PR1. -/
import Derived.Deep.RegionHeld3
import Derived.Deep.AppendLies
import Derived.Laws.OwnMore
import Derived.RangeFuncBox
import Derived.Test.YtmiboibadccceaaGreatK3
/- deltaBegun returns true. -/
namespace Go.Proofs.YtmiboibadccceaaGreat
open Go.RowKit
set_option linter.unusedVariables false

abbrev d574 : List Nat := [5, 7, 4]
abbrev d52 : List Nat := [5, 2, 18446744073709551613]
abbrev d574V : Array Value := #[.int .u64 5, .int .u64 7, .int .u64 4]
abbrev d52V : Array Value := #[.int .u64 5, .int .u64 2, .int .u64 18446744073709551613]

theorem dbd (w : World) : Calls Tryz.prog 28 #[.slice (some ⟨w.heap.size, 0, none⟩) 3 3] (w.alloc (.cells d574V 46)) fun e w' => ∃ a c, e = .returned (.tuple #[.slice a 3 c, .int .i64 0]) ∧ Nums w' w'.heap.size a d52 ∧ Below w.heap.size w w' := by
  have h := diffs_any (some ⟨w.heap.size, 0, none⟩) 3 d574 (w.alloc (.cells (nv d574).toArray 46)) (by decide) (nums_lit w d574)
  have e : (if 64 < d574.length then (([] : List Nat), 2) else (D.diffs d574, 0)) = (d52, 0) := by decide +kernel
  rw [e] at h
  exact h.mono fun e w' ⟨a, c, he, hn, _, _, hb⟩ => ⟨a, c, he, hn, ((Below.refl _ _).alloc (Nat.le_refl _) _).trans (hb.mono (by simp))⟩
theorem dbs (w : World) : Calls Tryz.prog 29 #[.slice (some ⟨w.heap.size, 0, none⟩) 3 3] (w.alloc (.cells d52V 46)) fun e w' => ∃ a c, e = .returned (.tuple #[.slice a 3 c, .int .i64 0]) ∧ Nums w' w'.heap.size a d574 ∧ Below w.heap.size w w' := by
  have h := sums_any (some ⟨w.heap.size, 0, none⟩) 3 d52 (w.alloc (.cells (nv d52).toArray 46)) (by decide) (nums_lit w d52)
  have e : (if 64 < d52.length then (([] : List Nat), 2) else (D.sums d52, 0)) = (d574, 0) := by decide +kernel
  rw [e] at h
  exact h.mono fun e w' ⟨a, c, he, hn, _, _, hb⟩ => ⟨a, c, he, hn, ((Below.refl _ _).alloc (Nat.le_refl _) _).trans (hb.mono (by simp))⟩
theorem dbw (w : World) : Calls Tryz.prog 73 #[.slice (some ⟨w.heap.size, 0, none⟩) 3 3] (w.alloc (.cells d574V 46)) fun e w' => e = .returned (.tuple #[.string ⟨#[5, 3, 3, 44, 0, 0]⟩, .int .i64 0]) ∧ Below w.heap.size w w' := by
  have h := dwrite_any (some ⟨w.heap.size, 0, none⟩) 3 d574 (w.alloc (.cells (nv d574).toArray 46)) (by decide) (nums_lit w d574)
  have e : dwriteR d574 = ([5, 3, 3, 44, 0, 0], 0) := by decide +kernel
  rw [e] at h
  exact h.mono fun e w' ⟨he, hb⟩ => ⟨he, ((Below.refl _ _).alloc (Nat.le_refl _) _).trans (hb.mono (by simp))⟩
theorem dbr (w : World) : Calls Tryz.prog 74 #[.string ⟨#[5, 3, 3, 44, 0, 0]⟩, .int .i64 3] w fun e w' => ∃ a c, e = .returned (.tuple #[.slice a 3 c, .int .i64 0]) ∧ Nums w' w'.heap.size a d574 ∧ Below w.heap.size w w' := by
  have h := dread_any ⟨#[5, 3, 3, 44, 0, 0]⟩ 3 w (by decide)
  have e : dreadR (ByteArray.mk #[5, 3, 3, 44, 0, 0]).data.toList 3 = (d574, 0) := by decide +kernel
  rw [e] at h
  exact h.mono fun e w' ⟨a, c, he, hn, _, _, hb⟩ => ⟨a, c, he, hn, hb⟩
theorem dbr2 (w : World) : Calls Tryz.prog 74 #[.string ⟨#[5, 0]⟩, .int .i64 2] w fun e w' => ∃ a c, e = .returned (.tuple #[.slice a 0 c, .int .i64 5]) ∧ Below w.heap.size w w' := by
  have h := dread_any ⟨#[5, 0]⟩ 2 w (by decide)
  have e : dreadR (ByteArray.mk #[5, 0]).data.toList 2 = ([], 5) := by decide +kernel
  rw [e] at h
  exact h.mono fun e w' ⟨a, c, he, hn, _, _, hb⟩ => ⟨a, c, he, hb⟩
theorem dbm1 (a : Option Addr) (c : Nat) (w : World) (h : Nums w w.heap.size a d52) :
    Calls Tryz.prog 26 #[.slice a 3 c, .slice (some ⟨w.heap.size, 0, none⟩) 3 3] (w.alloc (.cells d52V 46)) fun e w' => e = .returned (.bool true) ∧ Below w.heap.size w w' := by
  have hb : Below w.heap.size w (w.alloc (.cells d52V 46)) := (Below.refl _ _).alloc (Nat.le_refl _) _
  have h2 := same_any a (some ⟨w.heap.size, 0, none⟩) c 3 d52 d52 (w.alloc (.cells d52V 46)) _ (h.next hb) (nums_lit w d52) (by decide)
  rw [decide_eq_true rfl] at h2
  exact h2.mono fun e w' ⟨he, hb'⟩ => ⟨he, below_then hb hb'⟩
theorem dbm2 (a : Option Addr) (c : Nat) (w : World) (h : Nums w w.heap.size a d574) :
    Calls Tryz.prog 26 #[.slice a 3 c, .slice (some ⟨w.heap.size, 0, none⟩) 3 3] (w.alloc (.cells d574V 46)) fun e w' => e = .returned (.bool true) ∧ Below w.heap.size w w' := by
  have hb : Below w.heap.size w (w.alloc (.cells d574V 46)) := (Below.refl _ _).alloc (Nat.le_refl _) _
  have h2 := same_any a (some ⟨w.heap.size, 0, none⟩) c 3 d574 d574 (w.alloc (.cells d574V 46)) _ (h.next hb) (nums_lit w d574) (by decide)
  rw [decide_eq_true rfl] at h2
  exact h2.mono fun e w' ⟨he, hb'⟩ => ⟨he, below_then hb hb'⟩
theorem dbz (w : World) : Calls Tryz.prog 75 #[.int .u64 18446744073709551613] w fun e w' => e = .returned (.int .u64 5) ∧ w = w' := by
  have h := zig_any 18446744073709551613 w (by decide)
  have e : D.zig 18446744073709551613 = 5 := by decide +kernel
  rw [e] at h
  exact h
theorem dbg (w : World) : Calls Tryz.prog 76 #[.int .u64 5] w fun e w' => e = .returned (.int .u64 18446744073709551613) ∧ w = w' := by
  have h := zag_any 5 w (by decide)
  have e : D.zag 5 = 18446744073709551613 := by decide +kernel
  rw [e] at h
  exact h

set_option maxHeartbeats 1000000 in
set_option maxRecDepth 100000 in
theorem dbegun_any (w : World) : Calls Tryz.prog 31 #[] w (BoolPost true w) := by
  go_enter Tryz.func31, Tryz.ntmps31
  go_wp2_with fail
  refine (dbd w).mono ?_
  rintro e w1 ⟨a1, c1, rfl, hn1, hb1⟩
  go_wp2_with fail
  refine (dbs _).mono ?_
  rintro e w2 ⟨a2, c2, rfl, hn2, hb2⟩
  have h2 := below_then hb1 hb2
  go_wp2_with fail
  refine (dbw _).mono ?_
  rintro e w3 ⟨rfl, hb3⟩
  have h3 := below_then h2 hb3
  go_wp2_with fail
  refine (dbr _).mono ?_
  rintro e w4 ⟨a4, c4, rfl, hn4, hb4⟩
  have h4 := below_then h3 hb4
  go_wp2_with fail
  refine (dbr2 _).mono ?_
  rintro e w5 ⟨a5, c5, rfl, hb5⟩
  have h5 := below_then h4 hb5
  go_wp2_with fail
  refine (dbm1 _ _ _ (hn1.next (below_then (below_then (below_then hb2 hb3) hb4) hb5))).mono ?_
  rintro e w6 ⟨rfl, hb6⟩
  have h6 := below_then h5 hb6
  go_wp2_with fail
  refine (dbm2 _ _ _ (hn2.next (below_then (below_then (below_then hb3 hb4) hb5) hb6))).mono ?_
  rintro e w7 ⟨rfl, hb7⟩
  have h7 := below_then h6 hb7
  go_wp2_with fail
  refine (dbz _).mono ?_
  rintro e w8 ⟨rfl, rfl⟩
  go_wp2_with fail
  refine (dbg _).mono ?_
  rintro e w9 ⟨rfl, rfl⟩
  go_wp2_with fail
  refine (dbm2 _ _ _ (hn4.next (below_then (below_then hb5 hb6) hb7))).mono ?_
  rintro e w10 ⟨rfl, hb10⟩
  go_wp2_with fail
  go_ret
  exact ⟨rfl, below_then h7 hb10⟩
end Go.Proofs.YtmiboibadccceaaGreat
/- Append of one number inside a region that draws its order. -/
namespace Go.Proofs.YtmiboibadccceaaGreat
open Go.RowKit
set_option linter.unusedVariables false

/-- append of one number onto a row of the call's own, at a step of a region that draws -/
theorem step_append_one {w : World} {ops : Array Oper} {o : Oper} {a : Act} {K : Act → World → Prop} {Q : Exit → Act → World → Prop} {E : Prop} (hgd : o.guard = none) (s x : Operand)
    (ho : o.op = .call { callee := .builtin .append, args := #[s, x], argTypes := #[22, 22] }) (base : Nat)
    (v : Value) (xs : List Nat) (hs : a.eval s = v) (hown : NumRow base xs v w)
    (g : Nat) (y : Nat) (hx : a.eval x = .slice (some ⟨g, 0, none⟩) 1 1) (hc : w.cell? ⟨g, 0, none⟩ = some (.int .u64 (y : Int)))
    (hbytes : (xs.length + 1) * 8 ≤ 140737488355328) (hbase : base ≤ w.heap.size)
    (h : ∀ v' w', NumRow base (xs ++ [y]) v' w' → Below base w w' → K (a.put o.dst v') w') :
    if Region.wanted o (yielded ops a.tmps) = true then Oper.wp Tryz.prog o a w K Q else E := by
  obtain ⟨i, hi, hz0, hz1, hz2⟩ := info_parts info_u64
  refine step_append_lies w hgd s x 22 ho base 46 i (.int .u64 0) 1 8 Tryz.underlying22 hi hz0 hz1 hz2 rfl (by decide) v xs.length (nv xs) hs hown ⟨g, 0, none⟩ 1 1 [.int .u64 (y : Int)] hx rfl ?_ ?_ (by decide) (by unfold maxLen; omega) hbytes hbase _ rfl ?_
  · intro j u hj
    match j, hj with
    | 0, hj => simp at hj; subst hj; simpa [Addr.add] using hc
  · intro u hu; simp at hu; subst hu; rfl
  · intro g' cap w' h1 h2 h3 h4
    refine h _ w' ?_ ?_
    · unfold NumRow; rw [List.length_append]; simpa [nv] using h1
    · exact (Below.refl base w).grown h2 hbase (fun k hk => (hown.lt k hk).1)
end Go.Proofs.YtmiboibadccceaaGreat
/- The walks of hypostyleref.ZigOf, ZagOf, DiffsOf, SumsOf. -/
namespace Go.Proofs.YtmiboibadccceaaGreat
open Go.RowKit
set_option linter.unusedVariables false

set_option maxHeartbeats 400000 in
theorem rzig_any (n : Nat) (w : World) (hn : n < 18446744073709551616) :
    Calls Tryz.prog 134 #[.int .u64 n] w fun e w' => e = .returned (.int .u64 (D.zig n)) ∧ w = w' := by
  by_cases h : n < 9223372036854775808
  · have HZ := Lib.hid (show D.zig n = 2 * n by unfold D.zig; rw [if_pos h])
    have hw : IntKind.u64.wrap (2 * (n : Int)) = 2 * (n : Int) := by rw [IntKind.wrap_u64]; omega
    have g1 : decide ((n : Int) < 9223372036854775808) = true := by simp; omega
    go_enter Tryz.func134, Tryz.ntmps134
    go_wp2_with fail
    go_ret
    exact ⟨by rw [HZ.out]; simp, rfl⟩
  · have HZ := Lib.hid (show D.zig n = 2 * (18446744073709551616 - n) - 1 by unfold D.zig; rw [if_neg h])
    have g1 : decide ((n : Int) < 9223372036854775808) = false := by simp; omega
    obtain ⟨m, hm⟩ : ∃ m, m = 18446744073709551616 - n := ⟨_, rfl⟩
    have hw : IntKind.u64.wrap (-(n : Int)) = (m : Int) := by rw [IntKind.wrap_u64]; omega
    have hw0 : IntKind.u64.wrap (0 - (n : Int)) = (m : Int) := by rw [IntKind.wrap_u64]; omega
    obtain ⟨z, hz⟩ : ∃ z, z = 2 * (18446744073709551616 - n) - 1 := ⟨_, rfl⟩
    have hw2 : IntKind.u64.wrap (IntKind.u64.wrap (2 * (m : Int)) - 1) = (z : Int) := by rw [IntKind.wrap_u64, IntKind.wrap_u64]; omega
    rw [← hz] at HZ
    clear hm hz
    go_enter Tryz.func134, Tryz.ntmps134
    go_wp2_with fail
    go_ret
    exact ⟨by rw [HZ.out]; rfl, rfl⟩
set_option maxHeartbeats 400000 in
theorem rzag_any (n : Nat) (w : World) (hn : n < 18446744073709551616) :
    Calls Tryz.prog 107 #[.int .u64 n] w fun e w' => e = .returned (.int .u64 (D.zag n)) ∧ w = w' := by
  obtain ⟨q, hq⟩ : ∃ q, q = n / 2 := ⟨_, rfl⟩
  have hqI : ((n : Int) / 2) = (q : Int) := by omega
  have hqb : q < 9223372036854775808 := by omega
  by_cases h : n % 2 = 0
  · have HZ := Lib.hid (show D.zag n = q by unfold D.zag; rw [if_pos h, hq])
    have g1 : ((n : Int) % 2 == 0) = true := by rw [beq_iff_eq]; omega
    clear hq
    go_enter Tryz.func107, Tryz.ntmps107
    go_wp2_with fail
    go_ret
    exact ⟨by rw [HZ.out]; rfl, rfl⟩
  · obtain ⟨z, hz⟩ : ∃ z, z = 18446744073709551616 - 1 - q := ⟨_, rfl⟩
    have HZ := Lib.hid (show D.zag n = z by unfold D.zag; rw [if_neg h, hz, hq])
    have g1 : ((n : Int) % 2 == 0) = false := by rw [beq_eq_false_iff_ne]; omega
    have hw2 : IntKind.u64.wrap (-((q : Int) + 1)) = (z : Int) := by rw [IntKind.wrap_u64]; omega
    have hw3 : IntKind.u64.wrap (0 - ((q : Int) + 1)) = (z : Int) := by rw [IntKind.wrap_u64]; omega
    clear hq hz
    go_enter Tryz.func107, Tryz.ntmps107
    go_wp2_with fail
    go_ret
    exact ⟨by rw [HZ.out]; rfl, rfl⟩
theorem diffs_take0 (l : List Nat) (h : 0 < l.length) (hx : ∀ x ∈ l, x < 18446744073709551616) : D.diffs (l.take 1) = [l.getD 0 0] := by
  cases l with
  | nil => simp at h
  | cons x t =>
    have hx0 := hx x (by simp)
    have e : (D.fd 0 x).2 = x := by unfold D.fd; simp only; omega
    show [(D.fd 0 x).2] = [x]
    rw [e]
theorem diffs_take (l : List Nat) (k : Nat) (h1 : 1 ≤ k) (h : k < l.length) : D.diffs (l.take (k + 1)) = D.diffs (l.take k) ++ [(l.getD k 0 + (18446744073709551616 - l.getD (k - 1) 0)) % 18446744073709551616] := by
  unfold D.diffs
  rw [(D.runF_take D.fd 0 l k h).1]
  obtain ⟨j, rfl⟩ : ∃ j, k = j + 1 := ⟨k - 1, by omega⟩
  rw [(D.runF_take D.fd 0 l j (by omega)).2]
  rfl
set_option maxHeartbeats 1000000 in
set_option maxRecDepth 100000 in
theorem rdiffs_some (b off c : Nat) (l : List Nat) (w : World) (hl : l.length * 8 ≤ 140737488351232) (hx : ∀ x ∈ l, x < 18446744073709551616) (hb : b < w.heap.size)
    (hc : ∀ i, i < l.length → w.cell? ⟨b, off + i, none⟩ = some (.int .u64 ((l.getD i 0 : Nat) : Int))) :
    Calls Tryz.prog 133 #[.slice (some ⟨b, off, none⟩) l.length c] w (NumsC (D.diffs l) w.heap.size w) := by
  have HC := Lib.hid hc
  have HX := Lib.hid hx
  have HT0 := Lib.hid (fun h => diffs_take0 l h hx)
  have HTK := Lib.hid (fun k h1 h => diffs_take l k h1 h)
  have HLN := Lib.hid (fun k (h : k ≤ l.length) => show (D.diffs (l.take k)).length = k by rw [D.diffs_length, List.length_take]; omega)
  clear hc hx
  go_enter Tryz.func133, Tryz.ntmps133
  go_wp2_with fail
  go_loopw [3, 4] (fun v i wr => ∃ k : Nat, k ≤ l.length ∧ i = .int .i64 k ∧ NumRow w.heap.size (D.diffs (l.take k)) v wr ∧ Below w.heap.size w wr) (fun _ i _ => l.length - (intOf i).toNat)
  case atStart => exact ⟨0, by omega, rfl, ⟨rfl, Or.inl ⟨rfl, rfl⟩⟩, Below.refl _ _⟩
  case round =>
    obtain ⟨k, hk, rfl, hrow, hbw⟩ := hrel
    have hln := HLN.out k hk
    by_cases hlt : k < l.length
    · have ck := (hbw.cell (p := ⟨b, off + k, none⟩) hb).trans (HC.out k hlt)
      by_cases h0 : k = 0
      · subst h0
        have HT := Lib.hid (HT0.out hlt)
        have hnil : D.diffs (l.take 0) = [] := rfl
        rw [hnil] at hrow
        generalize l.getD 0 0 = x at *
        have HROW := Lib.hid (show wr.ownsRow w.heap.size 46 1 u3 0 [] from hrow)
        have hb5 : w.heap.size ≤ (wr.alloc (.cells #[.int .u64 (x : Int)] 46)).heap.size := by have := hbw.size; simp; omega
        rw [Nat.add_zero] at ck
        have ck0 : wr.cell? ⟨b, off + 0, none⟩ = some (.int .u64 (x : Int)) := ck
        clear hrow hln hnil
        go_wp2_with (at_builtin; refine wpList_append_one rfl (.tmp 13) (.tmp 17) rfl w.heap.size _ 0 _ rfl (HROW.out.alloc _) wr.heap.size x rfl (World.cell?_alloc_new _ _ _ _) (by omega) hb5 ?_)
        intro v' w5 hown5 hgrow5
        have hbw5 : Below w.heap.size w w5 := (hbw.alloc hbw.size _).grown hgrow5 (by have := hbw.size; simp; omega) (fun k hk => (HROW.out.lt k hk).1)
        go_wp2_with fail
        refine ⟨⟨1, by omega, by go_num, ?_, hbw5⟩, by simp [intOf]; omega⟩
        rw [HT.out]; exact hown5
      · have ck1 := (hbw.cell (p := ⟨b, off + (k - 1), none⟩) hb).trans (HC.out (k - 1) (by omega))
        have HT := Lib.hid (HTK.out k (by omega) hlt)
        have hxk := HX.out _ (getD_mem l k hlt)
        have hyk := HX.out _ (getD_mem l (k - 1) (by omega))
        have g0 : ((k : Int) == 0) = false := by rw [beq_eq_false_iff_ne]; omega
        generalize l.getD k 0 = x at *
        generalize l.getD (k - 1) 0 = y at *
        generalize D.diffs (l.take k) = acc at *
        have hwrap : IntKind.u64.wrap ((x : Int) - (y : Int)) = (((x + (18446744073709551616 - y)) % 18446744073709551616 : Nat) : Int) := by rw [IntKind.wrap_u64]; omega
        generalize (x + (18446744073709551616 - y)) % 18446744073709551616 = z at *
        have hi1 : IntKind.i64.wrap ((k : Int) - 1) = (k : Int) - 1 := by rw [IntKind.wrap_i64]; omega
        have hi2 : (0 : Int) ≤ (k : Int) - 1 := by omega
        have hi3 : ((k : Int) - 1).toNat = k - 1 := by omega
        have hi4 : (k : Int) - 1 < (l.length : Int) := by omega
        have hi5 : (k : Int) < (l.length : Int) := by omega
        have hi6 : (1 : Int) ≤ (k : Int) := by omega
        have hlb : (acc.length + 1) * 8 ≤ 140737488355328 := by omega
        have hb5 : w.heap.size ≤ (wr.alloc (.cells #[.int .u64 (z : Int)] 46)).heap.size := by have := hbw.size; simp; omega
        have HROW := Lib.hid hrow
        have HLN2 := Lib.hid hln
        clear hrow hln
        go_wp2_with fail
        go_region_held3 (fun W => W.cell? ⟨b, off + k, none⟩ = some (.int .u64 (x : Int)) ∧ W.cell? ⟨b, off + (k - 1), none⟩ = some (.int .u64 (y : Int)))
          (first
            | go_keep
            | (go_split_ands; refine ⟨?_, ?_⟩ <;> (rw [hg5.cell (by assumption)]; assumption)))
          ((refine step_append_one rfl (.tmp 19) (.tmp 30) rfl w.heap.size _ acc rfl ((HROW.out.alloc _).drew) wr.heap.size z rfl (by simp) hlb hb5 ?_; intro v' w5 hown5 hg5))
        go_wp2_with fail
        refine ⟨⟨k + 1, by omega, by go_num, ?_, ((hbw.alloc hbw.size _).drew).trans hg5⟩, by simp [intOf]; omega⟩
        rw [HT.out]; exact hown5
    · obtain rfl : k = l.length := by omega
      rw [List.take_length] at hrow
      obtain ⟨a', c', rfl, hn, h1, h2⟩ := numRow_numsc hrow
      rw [D.diffs_length] at h1 ⊢
      go_wp2_with fail
      go_ret
      exact ⟨a', c', by rw [D.diffs_length]; rfl, hn, by rw [D.diffs_length]; exact h1, h2, hbw⟩
set_option maxHeartbeats 400000 in
theorem rdiffs_nil (a : Option Addr) (c : Nat) (w : World) :
    Calls Tryz.prog 133 #[.slice a 0 c] w (NumsC [] w.heap.size w) := by
  go_enter Tryz.func133, Tryz.ntmps133
  go_wp2_with fail
  refine wp_loop_rounds 1 ?_
  rw [rounds_succ]
  go_wp2_with fail
  go_ret
  exact ⟨none, 0, rfl, Nums.nil _ _ _, Nat.le_refl _, by unfold maxLen; omega, Below.refl _ _⟩
theorem rdiffs_any (a : Option Addr) (c : Nat) (l : List Nat) (w : World) (hl : l.length * 8 ≤ 140737488351232) (hx : ∀ x ∈ l, x < 18446744073709551616) (hu : Nums w w.heap.size a l) :
    Calls Tryz.prog 133 #[.slice a l.length c] w (NumsC (D.diffs l) w.heap.size w) := by
  by_cases h : l = []
  · subst h; exact rdiffs_nil a c w
  · obtain ⟨b, off, rfl, hb, hc⟩ := hu h
    exact rdiffs_some b off c l w hl hx hb hc
end Go.Proofs.YtmiboibadccceaaGreat
/- The walks of hypostyleref.zigsOf, DeltaBytes. -/
namespace Go.Proofs.YtmiboibadccceaaGreat
open Go.RowKit
set_option linter.unusedVariables false

theorem zigs_step (d : List Nat) (k : Nat) (h1 : 1 ≤ k) (h : k < d.length) : D.zigs ((d.take (k + 1)).drop 1) = D.zigs ((d.take k).drop 1) ++ [D.zig (d.getD k 0)] := by
  have e : d.take (k + 1) = d.take k ++ [d.getD k 0] := by
    rw [List.take_succ_eq_append_getElem h]; simp [List.getD, List.getElem?_eq_getElem h]
  rw [e, List.drop_append_of_le_length (by rw [List.length_take]; omega)]
  simp [D.zigs]

set_option maxHeartbeats 1000000 in
set_option maxRecDepth 100000 in
theorem rzigs_any (a : Option Addr) (c : Nat) (l : List Nat) (w : World) (hl : l.length * 8 ≤ 140737488351232) (hx : ∀ x ∈ l, x < 18446744073709551616) (hu : Nums w w.heap.size a l) :
    Calls Tryz.prog 89 #[.slice a l.length c] w (NumsC (dz l) w.heap.size w) := by
  have hrd := rdiffs_any a c l w hl hx hu
  have hdl := D.diffs_length l
  have hdx := D.diffs_lt l hx
  unfold dz
  generalize D.diffs l = d at *
  have HRD := Lib.hid hrd
  have HDX := Lib.hid hdx
  have HZL := Lib.hid (show (D.zigs (d.drop 1)).length = d.length - 1 by simp [D.zigs])
  have HKL := Lib.hid (fun k (h1 : 1 ≤ k) (h : k ≤ d.length) => show (D.zigs ((d.take k).drop 1)).length = k - 1 by simp [D.zigs]; omega)
  have HST := Lib.hid (fun k h1 h => zigs_step d k h1 h)
  have HK1 := Lib.hid (show D.zigs ((d.take 1).drop 1) = [] by cases d <;> simp [D.zigs])
  have hdb : d.length * 8 ≤ 140737488351232 := by omega
  clear hrd hdx hx hu
  go_enter Tryz.func89, Tryz.ntmps89
  go_wp2_with fail
  refine (HRD.out).mono ?_
  rintro e w1 ⟨a1, c1, rfl, n1, _, _, hb1⟩
  have HN := Lib.hid n1
  clear n1 hdl
  go_wp2_with fail
  go_loopw [4, 5] (fun v i wr => ∃ k : Nat, 1 ≤ k ∧ (k ≤ d.length ∨ k = 1) ∧ i = .int .i64 k ∧ NumRow w1.heap.size (D.zigs ((d.take k).drop 1)) v wr ∧ Below w1.heap.size w1 wr) (fun _ i _ => d.length + 1 - (intOf i).toNat)
  case atStart => exact ⟨1, by omega, Or.inr rfl, rfl, by rw [HK1.out]; exact ⟨rfl, Or.inl ⟨rfl, rfl⟩⟩, Below.refl _ _⟩
  case round =>
    obtain ⟨k, h1k, hk, rfl, hrow, hbw⟩ := hrel
    by_cases hlt : k < d.length
    · obtain ⟨b, off, rfl, hb, hcc⟩ := HN.out (fun e => by rw [e] at hlt; simp at hlt)
      have ck := (hbw.cell (p := ⟨b, off + k, none⟩) hb).trans (hcc k hlt)
      have hxk := HDX.out _ (getD_mem d k hlt)
      have HT := Lib.hid (HST.out k h1k hlt)
      have hln := HKL.out k h1k (by omega)
      generalize d.getD k 0 = x at *
      generalize D.zigs ((d.take k).drop 1) = acc at *
      have HZ := Lib.hid (fun W => rzig_any x W hxk)
      generalize D.zig x = z at *
      have hlb : (acc.length + 1) * 8 ≤ 140737488355328 := by omega
      have hown : wr.ownsRow w1.heap.size 46 1 u4 acc.length (nv acc) := hrow
      have HOWN := Lib.hid hown
      have hsz2 := hbw.size
      have hb5 : w1.heap.size ≤ (wr.alloc (.cells #[.int .u64 (z : Int)] 46)).heap.size := by simp; omega
      clear hrow hown hln hcc
      go_wp2_with fail
      refine (HZ.out _).mono ?_
      rintro e w2 ⟨rfl, rfl⟩
      go_wp2_with (at_builtin; refine wpList_append_one rfl (.tmp 14) (.tmp 20) rfl w1.heap.size _ acc.length _ rfl (HOWN.out.alloc _) wr.heap.size z rfl (World.cell?_alloc_new _ _ _ _) hlb hb5 ?_)
      intro v' w5 hown5 hgrow5
      have hbw5 : Below w1.heap.size w1 w5 := (hbw.alloc hbw.size _).grown hgrow5 (by have := hbw.size; simp; omega) (fun k hk => (HOWN.out.lt k hk).1)
      go_wp2_with fail
      refine ⟨⟨k + 1, by omega, Or.inl (by omega), by go_num, ?_, hbw5⟩, by simp [intOf]; omega⟩
      rw [HT.out]; unfold NumRow; rw [List.length_append]; simpa [nv] using hown5
    · have hcut : (d.take k).drop 1 = d.drop 1 := by
        rcases hk with hk | hk
        · rw [List.take_of_length_le (by omega)]
        · rw [hk, List.drop_eq_nil_of_le (by rw [List.length_take]; omega), List.drop_eq_nil_of_le (by omega)]
      rw [hcut] at hrow
      obtain ⟨a', c', rfl, hn, h1, h2⟩ := numRow_numsc hrow
      have HFIN := Lib.hid hn
      have hge : d.length ≤ k := by omega
      clear hcut hrow hn hk
      generalize D.zigs (d.drop 1) = zz at *
      go_wp2_with fail
      go_ret
      exact ⟨a', c', rfl, HFIN.out, h1, h2, below_then hb1 hbw⟩

set_option maxHeartbeats 1000000 in
set_option maxRecDepth 100000 in
theorem rdbytes_some (b off c : Nat) (l : List Nat) (w : World) (hl : l.length ≤ 1048576) (h0 : 0 < l.length) (hx : ∀ x ∈ l, x < 18446744073709551616) (hb : b < w.heap.size)
    (hc : ∀ i, i < l.length → w.cell? ⟨b, off + i, none⟩ = some (.int .u64 ((l.getD i 0 : Nat) : Int))) :
    Calls Tryz.prog 43 #[.slice (some ⟨b, off, none⟩) l.length c] w (TextPost (dbytes l) w) := by
  have hne : l ≠ [] := fun e => by rw [e] at h0; simp at h0
  have hhd : l.headD 0 = l.getD 0 0 := by cases l with
    | nil => simp at h0
    | cons x t => rfl
  have hx0 := hx _ (getD_mem l 0 h0)
  have c0 := hc 0 h0
  have hrz := rzigs_any (some ⟨b, off, none⟩) c l w (by omega) hx (fun _ => ⟨b, off, rfl, hb, hc⟩)
  have hzl := dz_length l
  have hzx := dz_lt l hx
  have hw64 := B.wd_64 (dz l) hzx
  have hzf : ∀ x ∈ dz l, x < 2 ^ B.wd (dz l) := (B.wd_le _ _).1 (Nat.le_refl _)
  have hbl := H.bytes_len (B.wd (dz l)) (dz l)
  have hmul : (18 + B.wd (dz l)) * (dz l).length ≤ (18 + 64) * 1048576 := Nat.mul_le_mul (by omega) (by omega)
  have hres : dbytes l = V.enc (l.getD 0 0) ++ [UInt8.ofNat (B.wd (dz l))] ++ H.bytes (B.wd (dz l)) (dz l) := by
    unfold dbytes; rw [if_neg hne, hhd]
  rw [hres]
  have hwd := fun A c' W W' h => rwidth_any A c' (dz l) W W' (by unfold maxLen; omega) hzx h
  have hhb := fun A c' W h1 h2 h => hbytes_any A c' (dz l) (B.wd (dz l)) W (by omega) h1 h2 hw64 hzf h
  generalize l.getD 0 0 = x at *
  generalize hwdd : B.wd (dz l) = wd at *
  generalize H.bytes wd (dz l) = hbt at *
  generalize dz l = z at *
  obtain ⟨t1, ht1⟩ : ∃ t1, t1 = str (V.enc x) := ⟨_, rfl⟩
  obtain ⟨t2, ht2⟩ : ∃ t2, t2 = str [UInt8.ofNat wd] := ⟨_, rfl⟩
  obtain ⟨t3, ht3⟩ : ∃ t3, t3 = str hbt := ⟨_, rfl⟩
  have hs1 : t1.size ≤ 9 := by rw [ht1, str_size, V.enc_length]; exact V.sz_le _
  have hs2 : t2.size ≤ 1 := by rw [ht2, str_size]; simp
  have hs3 : t3.size ≤ 85983232 := by rw [ht3, str_size]; omega
  have hcat1 : ¬ 9223372036854775807 < t1.size + t2.size := by omega
  have hcat2 : ¬ 9223372036854775807 < t1.size + t2.size + t3.size := by omega
  have HSUM := Lib.hid (show t1 ++ t2 ++ t3 = str (V.enc x ++ [UInt8.ofNat wd] ++ hbt) by rw [ht1, ht2, ht3, str_append, str_append])
  have HVB := Lib.hid (fun W => show Calls Tryz.prog 51 #[.int .u64 (x : Int)] W (fun e w' => e = .returned (.string t1) ∧ Below W.heap.size W w') by rw [ht1]; exact vbytes_any x W hx0)
  have HOB := Lib.hid (fun W => show Calls Tryz.prog 40 #[.int .i64 (wd : Int)] W (fun e w' => e = .returned (.string t2) ∧ Below W.heap.size W w') by rw [ht2]; exact one_any wd W (by omega))
  have HHB := Lib.hid (fun A c' W h1 h2 h => show Calls Tryz.prog 42 #[.slice A z.length c', .int .i64 (wd : Int)] W (fun e w' => e = .returned (.string t3) ∧ Below W.heap.size W w') by rw [ht3]; exact hhb A c' W h1 h2 h)
  have HRZ := Lib.hid hrz
  have HWD := Lib.hid hwd
  have g0 : ((l.length : Int) == 0) = false := by rw [beq_eq_false_iff_ne]; omega
  have h0I : (0 : Int) < (l.length : Int) := by omega
  have c0' : w.cell? ⟨b, off, none⟩ = some (.int .u64 (x : Int)) := c0
  clear hrz hwd hhb hres hhd hbl hmul hzl hzx hzf hx hc ht1 ht2 ht3 hwdd hne c0
  go_enter Tryz.func43, Tryz.ntmps43
  go_wp2_with fail
  refine (HRZ.out).mono ?_
  rintro e w1 ⟨a1, c1, rfl, n1, hc1, hc2, hb1⟩
  have N1 := Lib.hid n1
  clear n1
  go_wp2_with fail
  refine (HWD.out _ _ _ _ N1.out).mono ?_
  rintro e w2 ⟨rfl, rfl⟩
  have k0 : w1.cell? ⟨b, off, none⟩ = some (.int .u64 (x : Int)) := (hb1.cell (p := ⟨b, off, none⟩) hb).trans c0'
  have hb1s : b < w1.heap.size := by have := hb1.size; omega
  have k1 : w1.cell? ⟨b, off + 0, none⟩ = some (.int .u64 (x : Int)) := k0
  go_wp2_with fail
  refine (HVB.out _).mono ?_
  rintro e w3 ⟨rfl, hb3⟩
  go_wp2_with fail
  refine (HOB.out _).mono ?_
  rintro e w4 ⟨rfl, hb4⟩
  go_wp2_with fail
  refine (HHB.out _ _ _ hc1 hc2 (N1.out.next (below_then hb3 hb4))).mono ?_
  rintro e w5 ⟨rfl, hb5⟩
  go_wp2_with fail
  go_ret
  exact ⟨by rw [← HSUM.out]; rfl, below_then hb1 (below_then (below_then hb3 hb4) hb5)⟩

set_option maxHeartbeats 400000 in
theorem rdbytes_nil (a : Option Addr) (c : Nat) (w : World) :
    Calls Tryz.prog 43 #[.slice a 0 c] w (TextPost [] w) := by
  go_enter Tryz.func43, Tryz.ntmps43
  go_wp2_with fail
  go_ret
  exact ⟨rfl, Below.refl _ _⟩

theorem rdbytes_any (a : Option Addr) (c : Nat) (l : List Nat) (w : World) (hl : l.length ≤ 1048576) (hx : ∀ x ∈ l, x < 18446744073709551616) (hu : Nums w w.heap.size a l) :
    Calls Tryz.prog 43 #[.slice a l.length c] w (TextPost (dbytes l) w) := by
  by_cases h : l = []
  · subst h; exact rdbytes_nil a c w
  · obtain ⟨b, off, rfl, hb, hc⟩ := hu h
    exact rdbytes_some b off c l w hl (by cases l with
      | nil => exact absurd rfl h
      | cons x t => simp) hx hb hc
end Go.Proofs.YtmiboibadccceaaGreat
/- The walk of hypostyleref.DeltaOf. -/
namespace Go.Proofs.YtmiboibadccceaaGreat
open Go.RowKit
set_option linter.unusedVariables false

theorem AllPost.none {w w' : World} (er : Nat) (h : Below w.heap.size w w') : AllPost ([], er) w (.returned (.tuple #[.slice none 0 0, .int .i64 er])) w' :=
  ⟨Option.none, 0, rfl, Nums.nil _ _ _, h⟩
theorem sums_cons (n : Nat) (l : List Nat) (hn : n < 18446744073709551616) : D.sums (n :: l) = n :: D.runF D.fs n l := by
  unfold D.sums
  have e : (D.fs 0 n) = (n, n) := by unfold D.fs; rw [show (0 + n) % 18446744073709551616 = n by omega]
  simp only [D.runF, e]
theorem zags_take (zs : List Nat) (k : Nat) (h : k < zs.length) : D.zags (zs.take (k + 1)) = D.zags (zs.take k) ++ [D.zag (zs.getD k 0)] := by
  have e : zs.take (k + 1) = zs.take k ++ [zs.getD k 0] := by
    rw [List.take_succ_eq_append_getElem h]; simp [List.getD, List.getElem?_eq_getElem h]
  rw [e]; simp [D.zags]

set_option maxHeartbeats 2000000 in
set_option maxRecDepth 100000 in
theorem dof_in (s : ByteArray) (many : Nat) (w : World) (hs : s.size ≤ maxLen) (hm1 : 1 ≤ many) (hm : many ≤ 64) :
    Calls Tryz.prog 58 #[.string s, .int .i64 many] w (AllPost (dread2 (parseR s.data.toList many)) w) := by
  have hv := fun w => vof_all s w hs
  have hmax := hs
  unfold maxLen at hmax
  have gm1 : decide ((many : Int) < 0) = false := by simp
  have gm2 : decide ((64 : Int) < (many : Int)) = false := by simp; omega
  have gm3 : ((many : Int) == 0) = false := by rw [beq_eq_false_iff_ne]; omega
  unfold parseR
  by_cases he : (V.rd s.data.toList).2.2 = 0
  · rw [if_neg (by simp [he])]
    obtain ⟨n, k, hr⟩ : ∃ n k, V.rd s.data.toList = (n, k, 0) := ⟨_, _, by rw [← he]⟩
    obtain ⟨k1, k2, _, k4, k5, _⟩ := V.rd_ok _ _ _ hr
    rw [hr] at hv ⊢
    rw [len_data] at k2 ⊢
    have HV := Lib.hid hv
    clear hv hr he
    by_cases hl : s.size = k
    · rw [if_pos hl]
      have g1 : ((s.size : Int) == (k : Int)) = true := by rw [beq_iff_eq]; omega
      go_enter Tryz.func58, Tryz.ntmps58
      go_wp2_with fail
      refine (HV.out _).mono ?_
      rintro e1 w1 ⟨rfl, hb⟩
      go_wp2_with fail
      go_ret2
      exact AllPost.none 5 hb
    · rw [if_neg hl]
      have g1 : ((s.size : Int) == (k : Int)) = false := by rw [beq_eq_false_iff_ne]; omega
      have hks : k < s.size := by omega
      have hksI : (k : Int) < (s.size : Int) := by omega
      have hks2 : ((k + 1 : Nat) : Int) ≤ (s.size : Int) := by omega
      have hsub : ((many : Int) - 1) = ((many - 1 : Nat) : Int) := by omega
      have hbyte : s.data.toList.getD k 0 = s[k] := by simp [List.getD, ByteArray.getElem_eq_getElem_data, hks]
      simp only [hbyte]
      have hu8 := s[k].toNat_lt
      have hw64 : wrap64 (s[k].toNat : Int) = (s[k].toNat : Int) := by
        unfold wrap64; omega
      have hrd := fun W => hof_any (s.extract (k + 1) s.size) ((many - 1 : Nat) : Int) (s[k].toNat : Int) W (by simp; unfold maxLen; omega)
      rw [cut_data] at hrd
      have hrl := hreadR_lt (s.data.toList.drop (k + 1)) ((many - 1 : Nat) : Int) (s[k].toNat : Int)
      have hrn := hreadR_len (s.data.toList.drop (k + 1)) ((many - 1 : Nat) : Int) (s[k].toNat : Int)
      rw [Int.toNat_natCast] at hrn
      generalize hreadR (s.data.toList.drop (k + 1)) ((many - 1 : Nat) : Int) (s[k].toNat : Int) = r at *
      obtain ⟨zs, er⟩ := r
      simp only at hrl hrn
      have HRD := Lib.hid hrd
      have HWD := Lib.hid (fun W A c' h => rwidth_any A c' zs W W.heap.size (by unfold maxLen; omega) hrl h)
      clear hrd hbyte
      unfold parse2
      simp only
      by_cases hz : er = 0
      · subst hz
        rw [if_neg (by simp)]
        by_cases hwe : B.wd zs = s[k].toNat
        · rw [if_neg (by simp [hwe])]
          rw [hwe] at HWD
          have HZX := Lib.hid hrl
          have HRES := Lib.hid (show dread2 (n, zs, 0) = (n :: D.runF D.fs n (D.zags zs), 0) by unfold dread2; rw [if_neg (by simp), sums_cons n _ k4])
          have HTK := Lib.hid (fun k h => zags_take zs k h)
          have HSN := Lib.hid (fun l x => D.runF_snoc D.fs n l x)
          have HEL := Lib.hid (fun k => D.endF_lt D.fs (fun b x hb hx => (D.fs_lt b x hb hx).1) n k4 (D.zags (zs.take k)) (D.zags_lt (zs.take k) (fun x h => hrl x (List.mem_of_mem_take h))))
          have HLN := Lib.hid (fun k (h : k ≤ zs.length) => show (D.runF D.fs n (D.zags (zs.take k))).length = k by rw [D.runF_length]; simp [D.zags]; omega)
          clear hrl hwe
          go_enter Tryz.func58, Tryz.ntmps58
          go_wp2_with fail
          refine (HV.out _).mono ?_
          rintro e1 w1 ⟨rfl, hb⟩
          go_wp2_with fail
          refine (HRD.out _).mono ?_
          rintro e2 w2 ⟨A, c2, rfl, hn2, hb2⟩
          have N2 := Lib.hid hn2
          clear hn2
          go_wp2_with fail
          refine (HWD.out _ _ _ N2.out).mono ?_
          rintro e3 w3 ⟨rfl, rfl⟩
          have hlit := World.ownsRow_lit (base := w2.heap.size) (e := 46) (size := 1) w2 #[.int .u64 (n : Int)] 1 (Nat.le_refl _) (by decide) rfl
          have hrow0 : NumRow w2.heap.size [n] (.slice (some ⟨w2.heap.size, 0, none⟩) 1 1) (w2.alloc (.cells #[.int .u64 (n : Int)] 46)) := hlit
          have hb20 : Below w2.heap.size w2 (w2.alloc (.cells #[.int .u64 (n : Int)] 46)) := (Below.refl _ _).alloc (Nat.le_refl _) _
          clear hlit
          go_wp2_with fail
          go_loopw [6, 11, 12] (fun x v i wr => ∃ k : Nat, k ≤ zs.length ∧ i = .int .i64 k ∧ x = .int .u64 ((D.endF D.fs n (D.zags (zs.take k)) : Nat) : Int) ∧ NumRow w2.heap.size (n :: D.runF D.fs n (D.zags (zs.take k))) v wr ∧ Below w2.heap.size w2 wr) (fun _ _ i _ => zs.length - (intOf i).toNat)
          case atStart => exact ⟨0, by omega, rfl, rfl, hrow0, hb20⟩
          case round =>
            obtain ⟨j, hj, rfl, rfl, hrow, hbw⟩ := hrel
            by_cases hlt : j < zs.length
            · obtain ⟨b, off, rfl, hbl, hcc⟩ := N2.out (fun e => by rw [e] at hlt; simp at hlt)
              have cj := (hbw.cell (p := ⟨b, off + j, none⟩) hbl).trans (hcc j hlt)
              have hxj := HZX.out _ (getD_mem zs j hlt)
              have hel := HEL.out j
              have hln := HLN.out j hj
              have HT := Lib.hid (HTK.out j hlt)
              have HS := Lib.hid (HSN.out (D.zags (zs.take j)) (D.zag (zs.getD j 0)))
              generalize zs.getD j 0 = x at *
              have HZ := Lib.hid (fun W => rzag_any x W hxj)
              have hzb := D.zag_lt x hxj
              generalize D.zag x = z at *
              generalize D.zags (zs.take j) = zt at *
              generalize D.endF D.fs n zt = y at *
              have HS1 := Lib.hid (show D.runF D.fs n (zt ++ [z]) = D.runF D.fs n zt ++ [(y + z) % 18446744073709551616] from HS.out.1)
              have HS2 := Lib.hid (show D.endF D.fs n (zt ++ [z]) = (y + z) % 18446744073709551616 from HS.out.2)
              generalize D.runF D.fs n zt = acc at *
              have hwrap : IntKind.u64.wrap ((y : Int) + (z : Int)) = (((y + z) % 18446744073709551616 : Nat) : Int) := by rw [IntKind.wrap_u64]; omega
              generalize (y + z) % 18446744073709551616 = q at *
              have hlb : ((n :: acc).length + 1) * 8 ≤ 140737488355328 := by rw [List.length_cons]; omega
              have hown : wr.ownsRow w2.heap.size 46 1 u11 (n :: acc).length (nv (n :: acc)) := hrow
              have HOWN := Lib.hid hown
              have hb5 : w2.heap.size ≤ (wr.alloc (.cells #[.int .u64 (q : Int)] 46)).heap.size := by have := hbw.size; simp; omega
              clear hrow hown hln hcc HS
              go_wp2_with fail
              refine (HZ.out _).mono ?_
              rintro e w9 ⟨rfl, rfl⟩
              go_wp2_with (at_builtin; refine wpList_append_one rfl (.tmp 72) (.tmp 74) rfl w2.heap.size _ (n :: acc).length _ rfl (HOWN.out.alloc _) wr.heap.size q rfl (World.cell?_alloc_new _ _ _ _) hlb hb5 ?_)
              intro v' w5 hown5 hgrow5
              have hbw5 : Below w2.heap.size w2 w5 := (hbw.alloc hbw.size _).grown hgrow5 (by have := hbw.size; simp; omega) (fun k hk => (HOWN.out.lt k hk).1)
              go_wp2_with fail
              refine ⟨⟨j + 1, by omega, by go_num, by rw [HT.out, HS2.out], ?_, hbw5⟩, by simp [intOf]; omega⟩
              rw [HT.out, HS1.out, ← List.cons_append]; unfold NumRow; rw [List.length_append]; simpa [nv] using hown5
            · obtain rfl : j = zs.length := by omega
              rw [List.take_length] at hrow
              obtain ⟨a', c', rfl, hn⟩ := numRow_nums hrow
              have HN := Lib.hid hn
              clear hrow hn
              go_wp2_with fail
              go_ret2
              rw [HRES.out]
              exact ⟨a', c', rfl, HN.out, below_then (below_then hb hb2) hbw⟩
        · rw [if_pos hwe]
          have g2 : ((B.wd zs : Int) != (s[k].toNat : Int)) = true := by rw [bne_iff_ne]; omega
          clear hrl
          go_enter Tryz.func58, Tryz.ntmps58
          go_wp2_with fail
          refine (HV.out _).mono ?_
          rintro e1 w1 ⟨rfl, hb⟩
          go_wp2_with fail
          refine (HRD.out _).mono ?_
          rintro e2 w2 ⟨A, c2, rfl, hn2, hb2⟩
          go_wp2_with fail
          refine (HWD.out _ _ _ hn2).mono ?_
          rintro e3 w3 ⟨rfl, rfl⟩
          go_wp2_with fail
          go_ret2
          exact AllPost.none 1 (below_then hb hb2)
      · rw [if_pos hz]
        have g2 : ((er : Int) != 0) = true := by rw [bne_iff_ne]; omega
        have HRES := Lib.hid (show dread2 (0, [], er) = ([], er) by unfold dread2; rw [if_pos hz])
        clear hrl
        go_enter Tryz.func58, Tryz.ntmps58
        go_wp2_with fail
        refine (HV.out _).mono ?_
        rintro e1 w1 ⟨rfl, hb⟩
        go_wp2_with fail
        refine (HRD.out _).mono ?_
        rintro e2 w2 ⟨A, c2, rfl, hn2, hb2⟩
        go_wp2_with fail
        go_ret2
        rw [HRES.out]
        exact AllPost.none er (below_then hb hb2)
  · rw [if_pos he]
    generalize V.rd s.data.toList = r at *
    have g1 : ((r.2.2 : Int) != 0) = true := by rw [bne_iff_ne]; omega
    have HV := Lib.hid hv
    have HRES := Lib.hid (show dread2 (0, [], r.2.2) = ([], r.2.2) by unfold dread2; rw [if_pos he])
    clear hv
    go_enter Tryz.func58, Tryz.ntmps58
    go_wp2_with fail
    refine (HV.out _).mono ?_
    rintro e1 w1 ⟨rfl, hb⟩
    go_wp2_with fail
    go_ret2
    rw [HRES.out]
    exact AllPost.none _ hb

theorem dof_any (s : ByteArray) (many : Int) (w : World) (hs : s.size ≤ maxLen) :
    Calls Tryz.prog 58 #[.string s, .int .i64 many] w (AllPost (dreadR s.data.toList many) w) := by
  unfold dreadR
  by_cases h0 : many < 0
  · rw [if_pos h0]
    have g1 : decide (many < 0) = true := by simp; omega
    go_enter Tryz.func58, Tryz.ntmps58
    go_wp2_with fail
    go_ret2
    exact AllPost.none 3 (Below.refl _ _)
  rw [if_neg h0]
  obtain ⟨m, rfl⟩ : ∃ m : Nat, many = m := ⟨many.toNat, by omega⟩
  have g1 : decide ((m : Int) < 0) = false := by simp
  by_cases h1 : 64 < (m : Int)
  · rw [if_pos h1]
    have g2 : decide ((64 : Int) < (m : Int)) = true := by simp; omega
    go_enter Tryz.func58, Tryz.ntmps58
    go_wp2_with fail
    go_ret2
    exact AllPost.none 2 (Below.refl _ _)
  rw [if_neg h1]
  by_cases h2 : (m : Int) = 0
  · rw [if_pos h2]
    obtain rfl : m = 0 := by omega
    by_cases ht : s.size = 0
    · rw [if_pos (data_empty s ht)]
      have g5 : decide ((0 : Int) < (s.size : Int)) = false := decide_eq_false (by omega)
      go_enter Tryz.func58, Tryz.ntmps58
      go_wp2_with fail
      go_ret2
      exact AllPost.none 0 (Below.refl _ _)
    · rw [if_neg (data_ne s ht)]
      have g5 : decide ((0 : Int) < (s.size : Int)) = true := decide_eq_true (by omega)
      have g6 : 0 < s.size := by omega
      go_enter Tryz.func58, Tryz.ntmps58
      go_wp2_with fail
      go_ret2
      exact AllPost.none 1 (Below.refl _ _)
  rw [if_neg h2, Int.toNat_natCast]
  exact dof_in s m w hs (by omega) (by omega)
end Go.Proofs.YtmiboibadccceaaGreat
/- Plain mathematics of frames. -/
namespace Go.Proofs.YtmiboibadccceaaGreat.P
set_option linter.unusedVariables false

/-- the least of a list and one more -/
def mn (m : Nat) : List Nat → Nat
  | [] => m
  | x :: t => mn (min m x) t
def base : List Nat → Nat
  | [] => 0
  | x :: t => mn x t
theorem mn_start (m : Nat) (l : List Nat) : mn m l ≤ m := by
  induction l generalizing m with
  | nil => exact Nat.le_refl _
  | cons x t ih => exact Nat.le_trans (ih _) (Nat.min_le_left _ _)
theorem mn_le (m : Nat) (l : List Nat) : ∀ x ∈ l, mn m l ≤ x := by
  induction l generalizing m with
  | nil => intro x hx; simp at hx
  | cons y t ih =>
    intro x hx
    rcases List.mem_cons.1 hx with rfl | hx
    · exact Nat.le_trans (mn_start (min m _) t) (Nat.min_le_right m _)
    · exact ih _ x hx
theorem mn_mem (m : Nat) (l : List Nat) : mn m l = m ∨ mn m l ∈ l := by
  induction l generalizing m with
  | nil => exact Or.inl rfl
  | cons y t ih =>
    rcases ih (min m y) with h | h
    · show mn (min m y) t = m ∨ mn (min m y) t ∈ y :: t
      rw [h]
      rcases Nat.le_total m y with hh | hh
      · exact Or.inl (Nat.min_eq_left hh)
      · exact Or.inr (by rw [Nat.min_eq_right hh]; simp)
    · exact Or.inr (List.mem_cons_of_mem _ h)
theorem mn_snoc (m : Nat) (l : List Nat) (x : Nat) : mn m (l ++ [x]) = min (mn m l) x := by
  induction l generalizing m with
  | nil => rfl
  | cons y t ih => exact ih _
theorem mn_take (m : Nat) (l : List Nat) (k : Nat) (h : k < l.length) : mn m (l.take (k + 1)) = min (mn m (l.take k)) (l.getD k 0) := by
  rw [List.take_succ_eq_append_getElem h, mn_snoc]; simp [List.getD, List.getElem?_eq_getElem h]
theorem mn_self (x : Nat) (t : List Nat) : mn x (x :: t) = mn x t := by show mn (min x x) t = _; rw [Nat.min_self]
theorem base_le (l : List Nat) : ∀ x ∈ l, base l ≤ x := by
  cases l with
  | nil => intro x hx; simp at hx
  | cons y t =>
    intro x hx
    rcases List.mem_cons.1 hx with rfl | hx
    · exact mn_start _ _
    · exact mn_le _ _ x hx
theorem base_lt (l : List Nat) (hl : ∀ x ∈ l, x < 18446744073709551616) : base l < 18446744073709551616 := by
  cases l with
  | nil => decide
  | cons y t => have := mn_start y t; have := hl y (by simp); show mn y t < _; omega
theorem base_mem (l : List Nat) (h : l ≠ []) : base l ∈ l := by
  cases l with
  | nil => exact absurd rfl h
  | cons y t =>
    rcases mn_mem y t with h | h
    · show mn y t ∈ _; rw [h]; simp
    · exact List.mem_cons_of_mem _ h

def more (l : List Nat) : List Nat := l.map fun x => x - base l
theorem more_length (l : List Nat) : (more l).length = l.length := by simp [more]
theorem more_lt (l : List Nat) (hl : ∀ x ∈ l, x < 18446744073709551616) : ∀ y ∈ more l, y < 18446744073709551616 := by
  intro y hy
  obtain ⟨x, hx, rfl⟩ := List.mem_map.1 hy
  have := hl x hx; omega
theorem more_get (l : List Nat) (k : Nat) (h : k < l.length) : (more l).getD k 0 = l.getD k 0 - base l := by
  simp [more, List.getD, List.getElem?_eq_getElem h]
theorem more_shift (l : List Nat) (by' : Nat) : more (l.map fun x => x + by') = more l := by
  cases l with
  | nil => rfl
  | cons x t =>
    have h : ∀ (m : Nat) (t : List Nat), mn (m + by') (t.map fun x => x + by') = mn m t + by' := by
      intro m t
      induction t generalizing m with
      | nil => rfl
      | cons y t ih =>
        show mn (min (m + by') (y + by')) _ = mn (min m y) t + by'
        rw [← ih, show min (m + by') (y + by') = min m y + by' by omega]
    have hb : base ((x :: t).map fun x => x + by') = base (x :: t) + by' := h x t
    unfold more
    rw [hb, List.map_map]
    apply List.map_congr_left
    intro y _
    show y + by' - (base (x :: t) + by') = y - base (x :: t)
    omega

/-- does a number stand out of so many bits? -/
def out (w x : Nat) : Bool := !decide (B.bl x ≤ w)
/-- places of the numbers that are looked for -/
def plc (p : Nat → Bool) (k : Nat) : List Nat → List Nat
  | [] => []
  | x :: t => if p x then k :: plc p (k + 1) t else plc p (k + 1) t
theorem plc_snoc (p : Nat → Bool) (k : Nat) (l : List Nat) (x : Nat) : plc p k (l ++ [x]) = plc p k l ++ (if p x then [k + l.length] else []) := by
  induction l generalizing k with
  | nil => simp [plc]
  | cons y t ih =>
    simp only [List.cons_append, plc, ih, List.length_cons]
    rw [show k + 1 + t.length = k + (t.length + 1) by omega]
    split <;> simp
theorem plc_take (p : Nat → Bool) (l : List Nat) (k : Nat) (h : k < l.length) : plc p 0 (l.take (k + 1)) = plc p 0 (l.take k) ++ (if p (l.getD k 0) then [k] else []) := by
  have e : l.take (k + 1) = l.take k ++ [l.getD k 0] := by
    rw [List.take_succ_eq_append_getElem h]; simp [List.getD, List.getElem?_eq_getElem h]
  rw [e, plc_snoc, List.length_take, Nat.zero_add, Nat.min_eq_left (by omega)]
theorem plc_lt (p : Nat → Bool) (k : Nat) (l : List Nat) : ∀ a ∈ plc p k l, k ≤ a ∧ a < k + l.length := by
  induction l generalizing k with
  | nil => intro a ha; simp [plc] at ha
  | cons x t ih =>
    intro a ha
    simp only [plc] at ha
    split at ha
    · rcases List.mem_cons.1 ha with rfl | ha
      · simp
      · have := ih (k + 1) a ha; simp; omega
    · have := ih (k + 1) a ha; simp; omega
theorem plc_len (p : Nat → Bool) (k : Nat) (l : List Nat) : (plc p k l).length ≤ l.length := by
  induction l generalizing k with
  | nil => simp [plc]
  | cons x t ih => simp only [plc]; have := ih (k + 1); split <;> simp <;> omega
theorem plc_nodup (p : Nat → Bool) (k : Nat) (l : List Nat) : (plc p k l).Nodup := by
  induction l generalizing k with
  | nil => simp [plc]
  | cons x t ih =>
    simp only [plc]
    split
    · refine List.nodup_cons.2 ⟨fun h => ?_, ih _⟩
      have := plc_lt p (k + 1) t k h; omega
    · exact ih _
theorem plc_mem (p : Nat → Bool) (k : Nat) (l : List Nat) (i : Nat) (h : i < l.length) : k + i ∈ plc p k l ↔ p (l.getD i 0) = true := by
  induction l generalizing k i with
  | nil => simp at h
  | cons x t ih =>
    simp only [plc]
    cases i with
    | zero =>
      simp only [Nat.add_zero, List.getD_cons_zero]
      by_cases hp : p x = true
      · simp [hp]
      · rw [if_neg hp]
        refine ⟨fun h => ?_, fun h => absurd h hp⟩
        have := plc_lt p (k + 1) t k h; omega
    | succ i =>
      have := ih (k + 1) i (by simpa using h)
      rw [show k + 1 + i = k + (i + 1) by omega] at this
      simp only [List.getD_cons_succ]
      rw [← this]
      split
      · simp
      · exact Iff.rfl

/-- how many bytes a list takes by a width -/
def cost (w : Nat) (l : List Nat) : Nat := B.sz (l.length * w) + ((plc (out w) 0 l).map fun a => 1 + V.sz (l.getD a 0)).sum
/-- the same, number by number -/
def extra (w : Nat) : List Nat → Nat
  | [] => 0
  | x :: t => (if out w x then 1 + V.sz x else 0) + extra w t
theorem extra_snoc (w : Nat) (l : List Nat) (x : Nat) : extra w (l ++ [x]) = extra w l + (if out w x then 1 + V.sz x else 0) := by
  induction l with
  | nil => simp [extra]
  | cons y t ih => simp only [List.cons_append, extra, ih]; omega
theorem extra_take (w : Nat) (l : List Nat) (k : Nat) (h : k < l.length) : extra w (l.take (k + 1)) = extra w (l.take k) + (if out w (l.getD k 0) then 1 + V.sz (l.getD k 0) else 0) := by
  have e : l.take (k + 1) = l.take k ++ [l.getD k 0] := by
    rw [List.take_succ_eq_append_getElem h]; simp [List.getD, List.getElem?_eq_getElem h]
  rw [e, extra_snoc]
theorem extra_le (w : Nat) (l : List Nat) : extra w l ≤ 10 * l.length := by
  induction l with
  | nil => simp [extra]
  | cons x t ih => have := V.sz_le x; simp only [extra, List.length_cons]; split <;> omega
theorem plc_sum (w : Nat) (d t : List Nat) : ((plc (out w) d.length t).map fun a => 1 + V.sz ((d ++ t).getD a 0)).sum = extra w t := by
  induction t generalizing d with
  | nil => rfl
  | cons x t ih =>
    have h := ih (d ++ [x])
    rw [List.length_append, List.length_singleton, List.append_assoc, List.singleton_append] at h
    have hg : (d ++ x :: t).getD d.length 0 = x := by simp [List.getD]
    simp only [plc, extra]
    split
    · rw [List.map_cons, List.sum_cons, h, hg]
    · rw [h]; omega
theorem cost_eq (w : Nat) (l : List Nat) : cost w l = B.sz (l.length * w) + extra w l := by
  unfold cost
  have := plc_sum w [] l
  simp only [List.length_nil, List.nil_append] at this
  rw [this]

/-- the first of the least -/
def Best (f : Nat → Nat) (n w : Nat) : Prop := w ≤ n ∧ (∀ k, k ≤ n → f w ≤ f k) ∧ ∀ k, k < w → f w < f k
theorem best_one (f : Nat → Nat) (n u v : Nat) (hu : Best f n u) (hv : Best f n v) : u = v := by
  rcases Nat.lt_trichotomy u v with h | h | h
  · have := hv.2.2 u h; have := hu.2.1 v hv.1; omega
  · exact h
  · have := hu.2.2 v h; have := hv.2.1 u hu.1; omega
def upB (f : Nat → Nat) : Nat → Nat
  | 0 => 0
  | n + 1 => if f (n + 1) < f (upB f n) then n + 1 else upB f n
theorem upB_best (f : Nat → Nat) (n : Nat) : Best f n (upB f n) := by
  induction n with
  | zero => exact ⟨Nat.le_refl _, fun k hk => by obtain rfl : k = 0 := by omega
                                                 exact Nat.le_refl _, fun k hk => absurd hk (by simp [upB])⟩
  | succ n ih =>
    obtain ⟨h1, h2, h3⟩ := ih
    unfold upB
    split
    · rename_i h
      refine ⟨Nat.le_refl _, fun k hk => ?_, fun k hk => ?_⟩
      · by_cases hh : k = n + 1
        · rw [hh]; exact Nat.le_refl _
        · have := h2 k (by omega); omega
      · have := h2 k (by omega); omega
    · rename_i h
      refine ⟨by omega, fun k hk => ?_, h3⟩
      by_cases hh : k = n + 1
      · rw [hh]; omega
      · exact h2 k (by omega)
/-- looked for from above -/
def dnB (f : Nat → Nat) (w : Nat) : Nat → Nat
  | 0 => w
  | k + 1 => dnB f (if f k ≤ f w then k else w) k
theorem dnB_best (f : Nat → Nat) (n w k : Nat) (h1 : k ≤ w) (h2 : w ≤ n) (h3 : ∀ j, k ≤ j → j ≤ n → f w ≤ f j) (h4 : ∀ j, k ≤ j → j < w → f w < f j) : Best f n (dnB f w k) := by
  induction k generalizing w with
  | zero => exact ⟨h2, fun j hj => h3 j (by omega) hj, fun j hj => h4 j (by omega) hj⟩
  | succ k ih =>
    unfold dnB
    split
    · rename_i h
      refine ih k (Nat.le_refl _) (by omega) (fun j hj hn => ?_) (fun j hj hk => absurd hk (by omega))
      by_cases e : j = k
      · rw [e]; exact Nat.le_refl _
      · have := h3 j (by omega) hn; omega
    · rename_i h
      refine ih w (by omega) h2 (fun j hj hn => ?_) (fun j hj hw => ?_)
      · by_cases e : j = k
        · rw [e]; omega
        · exact h3 j (by omega) hn
      · by_cases e : j = k
        · rw [e]; omega
        · exact h4 j (by omega) hw
theorem dnB_up (f : Nat → Nat) (n : Nat) : dnB f n n = upB f n :=
  best_one f n _ _ (dnB_best f n n n (Nat.le_refl _) (Nat.le_refl _) (fun j h1 h2 => by rw [show j = n by omega]; exact Nat.le_refl _) (fun j h1 h2 => absurd h2 (by omega))) (upB_best f n)
def best (l : List Nat) : Nat := upB (fun w => cost w l) 64
theorem best_le (l : List Nat) : best l ≤ 64 := (upB_best _ 64).1
theorem best_least (l : List Nat) (w : Nat) (h : w ≤ 64) : cost (best l) l ≤ cost w l := (upB_best (fun w => cost w l) 64).2.1 w h

/-- what is packed -/
def ins (w : Nat) (l : List Nat) : List Nat := l.map fun x => if out w x then 0 else x
theorem ins_length (w : Nat) (l : List Nat) : (ins w l).length = l.length := by simp [ins]
theorem ins_fit (w : Nat) (l : List Nat) : ∀ x ∈ ins w l, x < 2 ^ w := by
  intro x hx
  obtain ⟨y, hy, rfl⟩ := List.mem_map.1 hx
  split
  · exact B.pos2 w
  · rename_i h; unfold out at h; exact (B.bl_le y w).1 (by simpa using h)
theorem ins_lt (w : Nat) (l : List Nat) (hl : ∀ x ∈ l, x < 18446744073709551616) : ∀ x ∈ ins w l, x < 18446744073709551616 := by
  intro x hx
  obtain ⟨y, hy, rfl⟩ := List.mem_map.1 hx
  have := hl y hy
  split <;> omega
theorem ins_get (w : Nat) (l : List Nat) (k : Nat) (h : k < l.length) : (ins w l).getD k 0 = if out w (l.getD k 0) then 0 else l.getD k 0 := by
  simp [ins, List.getD, List.getElem?_eq_getElem h]
theorem ins_take (w : Nat) (l : List Nat) (k : Nat) (h : k < l.length) : ins w (l.take (k + 1)) = ins w (l.take k) ++ [if out w (l.getD k 0) then 0 else l.getD k 0] := by
  have e : l.take (k + 1) = l.take k ++ [l.getD k 0] := by
    rw [List.take_succ_eq_append_getElem h]; simp [List.getD, List.getElem?_eq_getElem h]
  rw [e]; simp [ins]
/-- what stands behind -/
def tail (w k : Nat) : List Nat → List UInt8
  | [] => []
  | x :: t => (if out w x then UInt8.ofNat k :: V.enc x else []) ++ tail w (k + 1) t
theorem tail_snoc (w k : Nat) (l : List Nat) (x : Nat) : tail w k (l ++ [x]) = tail w k l ++ (if out w x then UInt8.ofNat (k + l.length) :: V.enc x else []) := by
  induction l generalizing k with
  | nil => simp [tail]
  | cons y t ih =>
    simp only [List.cons_append, tail, ih, List.length_cons, List.append_assoc]
    rw [show k + 1 + t.length = k + (t.length + 1) by omega]
theorem tail_take (w : Nat) (l : List Nat) (k : Nat) (h : k < l.length) : tail w 0 (l.take (k + 1)) = tail w 0 (l.take k) ++ (if out w (l.getD k 0) then UInt8.ofNat k :: V.enc (l.getD k 0) else []) := by
  have e : l.take (k + 1) = l.take k ++ [l.getD k 0] := by
    rw [List.take_succ_eq_append_getElem h]; simp [List.getD, List.getElem?_eq_getElem h]
  rw [e, tail_snoc, List.length_take, Nat.zero_add, Nat.min_eq_left (by omega)]
theorem tail_length (w k : Nat) (l : List Nat) : (tail w k l).length = extra w l := by
  induction l generalizing k with
  | nil => rfl
  | cons x t ih =>
    simp only [tail, extra, List.length_append, ih]
    split
    · rw [List.length_cons, V.enc_length]; omega
    · simp
/-- the bytes of one that stands out -/
def one (m : List Nat) (a : Nat) : List UInt8 := UInt8.ofNat a :: V.enc (m.getD a 0)
theorem tail_eq (w : Nat) (d t : List Nat) : (plc (out w) d.length t).flatMap (one (d ++ t)) = tail w d.length t := by
  induction t generalizing d with
  | nil => rfl
  | cons x t ih =>
    have h := ih (d ++ [x])
    rw [List.length_append, List.length_singleton, List.append_assoc, List.singleton_append] at h
    have hg : (d ++ x :: t).getD d.length 0 = x := by simp [List.getD]
    simp only [plc, tail]
    split
    · rw [List.flatMap_cons, h]; unfold one; rw [hg]
    · rw [h]; rfl
theorem tail_all (w : Nat) (l : List Nat) : (plc (out w) 0 l).flatMap (one l) = tail w 0 l := tail_eq w [] l
/-- with these places set to nought -/
def zer (m : List Nat) (ps : List Nat) : List Nat := (List.range m.length).map fun i => if i ∈ ps then 0 else m.getD i 0
theorem zer_length (m ps : List Nat) : (zer m ps).length = m.length := by simp [zer]
theorem zer_get (m ps : List Nat) (i : Nat) (h : i < m.length) : (zer m ps).getD i 0 = if i ∈ ps then 0 else m.getD i 0 := by
  simp [zer, List.getD, List.getElem?_range h]
theorem ext_getD (a b : List Nat) (hl : a.length = b.length) (h : ∀ i, i < a.length → a.getD i 0 = b.getD i 0) : a = b := by
  apply List.ext_getElem hl
  intro i h1 h2
  have := h i h1
  simpa [List.getD, List.getElem?_eq_getElem h1, List.getElem?_eq_getElem h2] using this
theorem zer_nil (m : List Nat) : zer m [] = m := ext_getD _ _ (zer_length _ _) fun i h => by rw [zer_length] at h; rw [zer_get m [] i h]; simp
theorem zer_snoc (m ps : List Nat) (a : Nat) : (zer m ps).set a 0 = zer m (ps ++ [a]) := by
  refine ext_getD _ _ (by simp [zer_length]) fun i h => ?_
  have hm : i < m.length := by simpa [zer_length] using h
  rw [zer_get m _ i hm]
  have hz := zer_get m ps i hm
  by_cases e : a = i
  · subst e; simp [List.getD, zer_length, hm]
  · have hs : ((zer m ps).set a 0).getD i 0 = (zer m ps).getD i 0 := by simp [List.getD, List.getElem?_set_ne e]
    rw [hs, hz]
    have e2 : ¬ i = a := fun h => e h.symm
    simp [e2]
theorem zer_all (w : Nat) (m : List Nat) : zer m (plc (out w) 0 m) = ins w m := by
  refine ext_getD _ _ (by rw [zer_length, ins_length]) fun i h => ?_
  rw [zer_length] at h
  rw [zer_get m _ i h, ins_get w m i h]
  have := plc_mem (out w) 0 m i h
  rw [Nat.zero_add] at this
  by_cases hp : out w (m.getD i 0) = true
  · rw [if_pos (this.2 hp), if_pos hp]
  · rw [if_neg (fun hh => hp (this.1 hh)), if_neg hp]

def bytesM (w b : Nat) (m : List Nat) : List UInt8 := V.enc b ++ [UInt8.ofNat w, UInt8.ofNat (plc (out w) 0 m).length] ++ H.pkd w (ins w m) ++ tail w 0 m
def bytes (l : List Nat) : List UInt8 := bytesM (best (more l)) (base l) (more l)
theorem bytes_length (l : List Nat) : (bytes l).length = V.sz (base l) + 2 + cost (best (more l)) (more l) := by
  unfold bytes bytesM
  rw [cost_eq]
  simp only [List.length_append, V.enc_length, H.pkd_length, ins_length, tail_length, List.length_cons, List.length_nil]
  omega

/-- what stands behind is put at its places -/
def mend (w : Nat) : Nat → List Nat → List UInt8 → Nat → List Nat × Nat
  | 0, m, [], _ => (m, 0)
  | 0, m, _ :: _, _ => (m, 1)
  | n + 1, m, [], _ => (m, 5)
  | n + 1, m, c :: t, nx =>
    if m.length ≤ c.toNat then (m, 3) else if c.toNat < nx then (m, 4) else if m.getD c.toNat 0 ≠ 0 then (m, 1) else
    if (V.rd t).2.2 ≠ 0 then (m, (V.rd t).2.2) else if B.bl (V.rd t).1 ≤ w then (m, 1) else
    mend w n (m.set c.toNat (V.rd t).1) (t.drop (V.rd t).2.1) (c.toNat + 1)
theorem mend_length (w n : Nat) (m : List Nat) (s : List UInt8) (nx : Nat) : (mend w n m s nx).1.length = m.length := by
  induction n generalizing m s nx with
  | zero => cases s <;> rfl
  | succ n ih =>
    cases s with
    | nil => rfl
    | cons c t =>
      unfold mend
      split; · rfl
      split; · rfl
      split; · rfl
      split; · rfl
      split; · rfl
      rw [ih, List.length_set]
theorem mend_tail (w : Nat) (t : List Nat) (ht : ∀ x ∈ t, x < 18446744073709551616) (d : List Nat) (nx : Nat) (hn : nx ≤ d.length) (hd : d.length + t.length ≤ 256) :
    mend w (plc (out w) d.length t).length (d ++ ins w t) (tail w d.length t) nx = (d ++ t, 0) := by
  induction t generalizing d nx with
  | nil => simp [plc, ins, tail, mend]
  | cons x t ih =>
    have hx := ht x (by simp)
    have h := fun v nx h2 => ih (fun y hy => ht y (by simp [hy])) (d ++ [v]) nx h2 (by simp at hd ⊢; omega)
    have hl : ∀ v, (d ++ [v]).length = d.length + 1 := by intro v; simp
    have ha : ∀ v (r : List Nat), d ++ [v] ++ r = d ++ v :: r := by intro v r; simp
    simp only [hl, ha] at h
    have hi : ins w (x :: t) = (if out w x then 0 else x) :: ins w t := rfl
    rw [hi]
    simp only [plc, tail]
    by_cases ho : out w x = true
    · simp only [ho, if_true, List.length_cons, List.cons_append]
      have hc : (UInt8.ofNat d.length).toNat = d.length := by simp at hd ⊢; omega
      have hb : ¬ B.bl x ≤ w := by unfold out at ho; simpa using ho
      have hr := V.rd_enc x hx (tail w (d.length + 1) t)
      unfold mend
      rw [hc, hr]
      have e0 : (d ++ 0 :: ins w t).getD d.length 0 = 0 := by simp [List.getD]
      have e1 : (d ++ 0 :: ins w t).set d.length x = d ++ x :: ins w t := by simp
      have e2 : (V.enc x ++ tail w (d.length + 1) t).drop (V.sz x) = tail w (d.length + 1) t := by rw [← V.enc_length x]; simp
      rw [if_neg (by simp), if_neg (by omega), if_neg (by rw [e0]; simp)]
      simp only
      rw [if_neg (by simp), if_neg hb, e1, e2]
      exact h x (d.length + 1) (Nat.le_refl _)
    · rw [if_neg ho, if_neg ho, if_neg ho, List.nil_append]
      exact h x nx (by omega)

/-- base and head of a text, and what is packed -/
def head (s : List UInt8) (many : Nat) : Nat × Nat × List Nat × List UInt8 × Nat × Nat :=   -- base, width, packed, what is behind, how many stand out, error
  if (V.rd s).2.2 ≠ 0 then (0, 0, [], [], 0, (V.rd s).2.2) else
  let t := s.drop (V.rd s).2.1
  if t.length < 2 then (0, 0, [], [], 0, 5) else
  let w := (t.getD 0 0).toNat
  if 64 < w then (0, 0, [], [], 0, 3) else
  let u := t.drop 2
  let z := B.sz (many * w)
  if u.length < z then (0, 0, [], [], 0, 5) else
  let d := u.take z
  if B.leN d / 2 ^ (many * w) ≠ 0 then (0, 0, [], [], 0, 1) else
  ((V.rd s).1, w, B.dg w many (B.leN d), u.drop z, (t.getD 1 0).toNat, 0)
def fin (b : Nat) (m : List Nat × Nat) : List Nat × Nat :=
  if m.2 ≠ 0 then ([], m.2) else if m.1.any (fun n => decide (18446744073709551615 - b < n)) then ([], 8) else (m.1.map fun n => n + b, 0)
def readN (s : List UInt8) (many : Nat) : List Nat × Nat :=
  let h := head s many
  if h.2.2.2.2.2 ≠ 0 then ([], h.2.2.2.2.2) else fin h.1 (mend h.2.1 h.2.2.2.2.1 h.2.2.1 h.2.2.2.1 0)
def read (s : List UInt8) (many : Int) : List Nat × Nat :=
  if many < 0 then ([], 3) else if 64 < many then ([], 2) else readN s many.toNat

theorem read_back (l : List Nat) (hx : ∀ x ∈ l, x < 18446744073709551616) (hl : l.length ≤ 64) : read (bytes l) l.length = (l, 0) := by
  unfold read
  rw [if_neg (by omega), if_neg (by omega), Int.toNat_natCast]
  have hb := base_lt l hx
  have hml := more_length l
  have hmx := more_lt l hx
  have hw := best_le (more l)
  have hrd := V.rd_enc (base l) hb ([UInt8.ofNat (best (more l)), UInt8.ofNat (plc (out (best (more l))) 0 (more l)).length] ++ (H.pkd (best (more l)) (ins (best (more l)) (more l)) ++ tail (best (more l)) 0 (more l)))
  have hpl := plc_len (out (best (more l))) 0 (more l)
  have hmt := mend_tail (best (more l)) (more l) hmx [] 0 (Nat.le_refl _) (by simp; omega)
  have hfl := ins_fit (best (more l)) (more l)
  have hil := ins_length (best (more l)) (more l)
  have hk := H.pkd_length (best (more l)) (ins (best (more l)) (more l))
  have hmm : (more l).map (fun n => n + base l) = l := by
    unfold more
    rw [List.map_map]
    conv => rhs; rw [← List.map_id l]
    apply List.map_congr_left
    intro x h
    have := base_le l x h
    show x - base l + base l = x
    omega
  have hany : (more l).any (fun n => decide (18446744073709551615 - base l < n)) = false := by
    rw [List.any_eq_false]
    intro y hy
    obtain ⟨x, h, rfl⟩ := List.mem_map.1 hy
    have := base_le l x h
    have := hx x h
    simp; omega
  unfold readN head bytes bytesM
  simp only [List.length_nil, List.nil_append] at hmt
  generalize best (more l) = w at *
  generalize base l = b at *
  generalize more l = m at *
  have e0 : V.enc b ++ [UInt8.ofNat w, UInt8.ofNat (plc (out w) 0 m).length] ++ H.pkd w (ins w m) ++ tail w 0 m = V.enc b ++ ([UInt8.ofNat w, UInt8.ofNat (plc (out w) 0 m).length] ++ (H.pkd w (ins w m) ++ tail w 0 m)) := by simp
  rw [e0, hrd]
  have e1 : (V.enc b ++ ([UInt8.ofNat w, UInt8.ofNat (plc (out w) 0 m).length] ++ (H.pkd w (ins w m) ++ tail w 0 m))).drop (V.sz b) = [UInt8.ofNat w, UInt8.ofNat (plc (out w) 0 m).length] ++ (H.pkd w (ins w m) ++ tail w 0 m) := by rw [← V.enc_length b]; simp
  simp only [e1]
  have e2 : (UInt8.ofNat w).toNat = w := by simp; omega
  have e3 : (UInt8.ofNat (plc (out w) 0 m).length).toNat = (plc (out w) 0 m).length := by simp; omega
  have g0 : ([UInt8.ofNat w, UInt8.ofNat (plc (out w) 0 m).length] ++ (H.pkd w (ins w m) ++ tail w 0 m)).getD 0 0 = UInt8.ofNat w := rfl
  have g1 : ([UInt8.ofNat w, UInt8.ofNat (plc (out w) 0 m).length] ++ (H.pkd w (ins w m) ++ tail w 0 m)).getD 1 0 = UInt8.ofNat (plc (out w) 0 m).length := rfl
  have g2 : ([UInt8.ofNat w, UInt8.ofNat (plc (out w) 0 m).length] ++ (H.pkd w (ins w m) ++ tail w 0 m)).drop 2 = H.pkd w (ins w m) ++ tail w 0 m := rfl
  rw [g0, g1, g2, e2, e3]
  have hml' : l.length = m.length := hml.symm
  rw [hml']
  have e4 : (H.pkd w (ins w m) ++ tail w 0 m).take (B.sz (m.length * w)) = H.pkd w (ins w m) := by rw [← hil, ← hk]; simp
  have e5 : (H.pkd w (ins w m) ++ tail w 0 m).drop (B.sz (m.length * w)) = tail w 0 m := by rw [← hil, ← hk]; simp
  rw [e4, e5]
  have hlt := B.pk_lt w (ins w m) hfl
  have hle : B.leN (H.pkd w (ins w m)) = B.pk w (ins w m) := by
    unfold H.pkd
    rw [B.leN_le]
    refine Nat.mod_eq_of_lt (Nat.lt_of_lt_of_le hlt ?_)
    rw [B.two8]
    exact Nat.pow_le_pow_right (by omega) (by unfold B.sz; rw [Nat.mul_comm w]; omega)
  rw [hle]
  have hdv : B.pk w (ins w m) / 2 ^ (m.length * w) = 0 := by rw [Nat.div_eq_of_lt]; rw [Nat.mul_comm, ← hil]; exact hlt
  have hdg := B.dg_pk w (ins w m) hfl
  rw [hil] at hdg
  rw [hdv, hdg]
  have i1 : ¬ ((0 : Nat) ≠ 0) := by simp
  have i2 : ¬ ([UInt8.ofNat w, UInt8.ofNat (plc (out w) 0 m).length] ++ (H.pkd w (ins w m) ++ tail w 0 m)).length < 2 := by simp
  have i3 : ¬ 64 < w := by omega
  have i4 : ¬ (H.pkd w (ins w m) ++ tail w 0 m).length < B.sz (m.length * w) := by rw [List.length_append, hk, hil]; omega
  simp only [if_neg i1, if_neg i2, if_neg i3, if_neg i4, hmt]
  unfold fin
  simp only [hany, hmm]
  simp
end Go.Proofs.YtmiboibadccceaaGreat.P
/- Slices of ints that the call made; rows that are read and written. -/
namespace Go.Proofs.YtmiboibadccceaaGreat
open Go.RowKit
set_option linter.unusedVariables false

def iv (l : List Nat) : List Value := l.map fun x : Nat => Value.int .i64 (x : Int)
theorem iv_length (l : List Nat) : (iv l).length = l.length := by simp [iv]
theorem info_i64 : (Tryz.prog.info? 3).map (fun i => (i.zero, i.size, i.bytes)) = some (some (.int .i64 0), 1, 8) := by kernel_rfl

/-- a slice's ints, read below block B -/
def INums (w : World) (B : Nat) (a : Option Addr) (l : List Nat) : Prop :=
  l ≠ [] → ∃ b off, a = some ⟨b, off, none⟩ ∧ b < B ∧ ∀ i, i < l.length → w.cell? ⟨b, off + i, none⟩ = some (.int .i64 ((l.getD i 0 : Nat) : Int))
theorem INums.below {w w' : World} {B : Nat} {a : Option Addr} {l : List Nat} (h : INums w B a l) (hb : Below B w w') : INums w' B a l := by
  intro hl
  obtain ⟨b, off, e, hlt, hc⟩ := h hl
  exact ⟨b, off, e, hlt, fun i hi => by rw [hb.cell (p := ⟨b, off + i, none⟩) hlt]; exact hc i hi⟩
theorem INums.mono {w : World} {B B' : Nat} {a : Option Addr} {l : List Nat} (h : INums w B a l) (hB : B ≤ B') : INums w B' a l := by
  intro hl
  obtain ⟨b, off, e, hlt, hc⟩ := h hl
  exact ⟨b, off, e, by omega, hc⟩
theorem INums.nil (w : World) (B : Nat) (a : Option Addr) : INums w B a [] := fun h => absurd rfl h
theorem INums.next {w w' : World} {a : Option Addr} {l : List Nat} (h : INums w w.heap.size a l) (hb : Below w.heap.size w w') : INums w' w'.heap.size a l := (h.below hb).mono hb.size

/-- a slice of ints that the call made -/
def IRow (B : Nat) (xs : List Nat) (v : Value) (wr : World) : Prop := wr.ownsRow B 3 1 v xs.length (iv xs)
theorem iRow_nums {B : Nat} {xs : List Nat} {v : Value} {w : World} (h : IRow B xs v w) : ∃ a c, v = .slice a xs.length c ∧ INums w w.heap.size a xs := by
  unfold IRow at h
  rcases h.2 with ⟨rfl, h0⟩ | ⟨g, cap, cur, rfl, e2, e3, e4⟩
  · refine ⟨none, 0, by rw [h0], ?_⟩
    rw [List.eq_nil_of_length_eq_zero h0]; exact INums.nil _ _ _
  · refine ⟨some ⟨g, 0, none⟩, cap, rfl, fun _ => ⟨g, 0, rfl, lt_of_block e3, fun i hi => ?_⟩⟩
    rw [Nat.zero_add, h.cellAt i (by omega)]
    simp [iv, List.getElem?_eq_getElem hi]

theorem IRow.mono {B B' : Nat} {xs : List Nat} {v : Value} {w : World} (h : IRow B' xs v w) (hB : B ≤ B') : IRow B xs v w := by
  refine ⟨h.1, ?_⟩
  rcases h.2 with hn | ⟨g, cap, cur, e1, e2, e3⟩
  · exact Or.inl hn
  · exact Or.inr ⟨g, cap, cur, e1, by omega, e3⟩
theorem IRow.below {B : Nat} {xs : List Nat} {v : Value} {w w' : World} (h : IRow B xs v w) (hb : Below w.heap.size w w') : IRow B xs v w' := row_below h hb
theorem IRow.nums {B : Nat} {xs : List Nat} {a : Option Addr} {n c : Nat} {w : World} (h : IRow B xs (.slice a n c) w) : INums w w.heap.size a xs := by
  obtain ⟨a', c', e, hn⟩ := iRow_nums h
  injection e with e1 e2 e3
  rw [e1]; exact hn
theorem IRow.form {B : Nat} {xs : List Nat} {a : Option Addr} {n c : Nat} {w : World} (h : IRow B xs (.slice a n c) w) (hne : xs ≠ []) : ∃ g, a = some ⟨g, 0, none⟩ ∧ n = xs.length ∧ B ≤ g ∧ g < w.heap.size := by
  unfold IRow at h
  rcases h.2 with ⟨he, h0⟩ | ⟨g, cap, cur, he, e2, e3, e4⟩
  · exact absurd (List.eq_nil_of_length_eq_zero h0) hne
  · injection he with h1 h2 h3
    exact ⟨g, h1, h2, e2, lt_of_block e3⟩
theorem IRow.cell {B : Nat} {xs : List Nat} {g n c : Nat} {w : World} (h : IRow B xs (.slice (some ⟨g, 0, none⟩) n c) w) (i : Nat) (hi : i < xs.length) : w.cell? ⟨g, i, none⟩ = some (.int .i64 ((xs.getD i 0 : Nat) : Int)) := by
  obtain ⟨a', c', e, hn⟩ := iRow_nums h
  injection e with e1 e2 e3
  subst e2
  unfold IRow at h
  rw [h.cellAt i (by omega)]
  simp [iv, List.getElem?_eq_getElem hi]
theorem NumRow.keep {B : Nat} {xs : List Nat} {g n c : Nat} {w w' : World} (h : NumRow B xs (.slice (some ⟨g, 0, none⟩) n c) w) (hb : w'.heap[g]? = w.heap[g]?) : NumRow B xs (.slice (some ⟨g, 0, none⟩) n c) w' := by
  refine ⟨h.1, ?_⟩
  rcases h.2 with ⟨he, h0⟩ | ⟨g', cap, cur, he, e2, e3, e4⟩
  · cases he
  · injection he with h1 h2 h3
    injection h1 with h1
    injection h1 with h1
    subst h1
    exact Or.inr ⟨g, cap, cur, by rw [h2, h3], e2, hb.trans e3, e4⟩
theorem IRow.alloc_ {B : Nat} {xs : List Nat} {v : Value} {w : World} (h : IRow B xs v w) (o : Obj) : IRow B xs v (w.alloc o) := World.ownsRow.alloc h o
/-- append of one int onto a row of the call's own -/
theorem wpList_append_onei {w : World} {ops : Array Oper} {rest : List Oper} {o : Oper} {a : Act} {Q : Exit → Act → World → Prop} (hgd : o.guard = none) (s x : Operand)
    (ho : o.op = .call { callee := .builtin .append, args := #[s, x], argTypes := #[76, 76] }) (base : Nat)
    (v : Value) (xs : List Nat) (hs : a.eval s = v) (hown : IRow base xs v w)
    (g : Nat) (y : Nat) (hx : a.eval x = .slice (some ⟨g, 0, none⟩) 1 1) (hc : w.cell? ⟨g, 0, none⟩ = some (.int .i64 (y : Int)))
    (hbytes : (xs.length + 1) * 8 ≤ 140737488355328) (hbase : base ≤ w.heap.size)
    (h : ∀ v' w', IRow base (xs ++ [y]) v' w' → Below base w w' → wpList Tryz.prog ops Q rest (a.put o.dst v') w') : wpList Tryz.prog ops Q (o :: rest) a w := by
  obtain ⟨i, hi, hz0, hz1, hz2⟩ := info_parts info_i64
  refine wpList_append_own w hgd s x 76 ho base 3 i (.int .i64 0) 1 8 Tryz.underlying76 hi hz0 hz1 hz2 rfl (by decide) v xs.length (iv xs) hs hown ⟨g, 0, none⟩ 1 1 [.int .i64 (y : Int)] hx rfl ?_ ?_ (by unfold maxLen; omega) hbytes hbase (fun v' w' h1 h2 _ => h v' w' ?_ ?_)
  · intro j u hj
    match j, hj with
    | 0, hj => simp at hj; subst hj; simpa [Addr.add] using hc
  · intro u hu; simp at hu; subst hu; rfl
  · unfold IRow; rw [List.length_append]; simpa [iv] using h1
  · exact (Below.refl base w).grown h2 hbase (fun k hk => (hown.lt k hk).1)

/-- a row of numbers that the call made, known by its block -/
theorem NumRow.form {B : Nat} {xs : List Nat} {a : Option Addr} {n c : Nat} {w : World} (h : NumRow B xs (.slice a n c) w) (hne : xs ≠ []) : ∃ g, a = some ⟨g, 0, none⟩ ∧ n = xs.length ∧ B ≤ g ∧ g < w.heap.size := by
  unfold NumRow at h
  rcases h.2 with ⟨he, h0⟩ | ⟨g, cap, cur, he, e2, e3, e4⟩
  · exact absurd (List.eq_nil_of_length_eq_zero h0) hne
  · injection he with h1 h2 h3
    exact ⟨g, h1, h2, e2, lt_of_block e3⟩
theorem NumRow.len {B : Nat} {xs : List Nat} {a : Option Addr} {n c : Nat} {w : World} (h : NumRow B xs (.slice a n c) w) : n = xs.length := by
  obtain ⟨a', c', e, _⟩ := numRow_nums h
  injection e
theorem NumRow.cell {B : Nat} {xs : List Nat} {g n c : Nat} {w : World} (h : NumRow B xs (.slice (some ⟨g, 0, none⟩) n c) w) (i : Nat) (hi : i < xs.length) : w.cell? ⟨g, i, none⟩ = some (.int .u64 ((xs.getD i 0 : Nat) : Int)) := by
  obtain rfl := h.len
  unfold NumRow at h
  rw [h.cellAt i (by omega)]
  simp [nv, List.getElem?_eq_getElem hi]
theorem NumRow.free {B : Nat} {xs : List Nat} {g n c : Nat} {w : World} (h : NumRow B xs (.slice (some ⟨g, 0, none⟩) n c) w) (i : Nat) : w.frozen? ⟨g, i, none⟩ = false := by
  obtain rfl := h.len
  exact h.frozenAt i
theorem NumRow.put {B : Nat} {xs : List Nat} {g n c : Nat} {w : World} (h : NumRow B xs (.slice (some ⟨g, 0, none⟩) n c) w) (i x : Nat) : NumRow B (xs.set i x) (.slice (some ⟨g, 0, none⟩) n c) (w.setCell ⟨g, i, none⟩ (.int .u64 (x : Int))) := by
  obtain rfl := h.len
  unfold NumRow at *
  have := (h.stored i (.int .u64 (x : Int))).1
  rw [List.length_set]
  have e : nv (xs.set i x) = (nv xs).set i (.int .u64 (x : Int)) := by simp [nv, List.map_set]
  rw [e]; exact this
theorem NumRow.drew_ {B : Nat} {xs : List Nat} {v : Value} {w : World} (h : NumRow B xs v w) : NumRow B xs v w.drew := World.ownsRow.drew h
theorem NumRow.below {B : Nat} {xs : List Nat} {v : Value} {w w' : World} (h : NumRow B xs v w) (hb : Below w.heap.size w w') : NumRow B xs v w' := row_below h hb

/-- a list that was answered is the call's own -/
def AllPostR (r : List Nat × Nat) (w : World) (e : Ending) (w' : World) : Prop :=
  ∃ a c, e = .returned (.tuple #[.slice a r.1.length c, .int .i64 r.2]) ∧ NumRow w.heap.size r.1 (.slice a r.1.length c) w' ∧ r.1.length ≤ c ∧ c ≤ maxLen ∧ Below w.heap.size w w'
theorem OwnB.row {base B : Nat} {w : World} {xs : List Nat} (h : OwnB base B w xs) : ∃ a c, w.cell? ⟨B, 0, none⟩ = some (.slice a xs.length c) ∧ NumRow base xs (.slice a xs.length c) w ∧ xs.length ≤ c ∧ c ≤ maxLen := by
  obtain ⟨h0, v, hv, hown⟩ := h
  obtain ⟨a, c, rfl, _, h1, h2⟩ := numRow_numsc hown
  exact ⟨a, c, cell_of_one hv, hown, h1, h2⟩
theorem nilRow (B : Nat) (w : World) : NumRow B [] (.slice none 0 0) w := ⟨rfl, Or.inl ⟨rfl, rfl⟩⟩

set_option maxHeartbeats 1000000 in
set_option maxRecDepth 100000 in
theorem unpackr_any (s : ByteArray) (many wide : Int) (w : World) (hs : s.size ≤ maxLen) :
    Calls Tryz.prog 100 #[.string s, .int .i64 many, .int .i64 wide] w (AllPostR (unpR s.data.toList many wide) w) := by
  have hmf : ∀ (fn : Fn) (first cap : Array Value) (w : World), (Instr.makeFunc fn first cap).run Tryz.prog w = .ok (.func fn first cap) w := fun _ _ _ _ => rfl
  obtain ⟨i0, hi, hz0, hz1, hz2⟩ := info_parts info_u64
  have hck := fun w => check_any s many wide w hs
  by_cases hc : chkR s.data.toList many wide = 0
  · obtain ⟨m, n, rfl, rfl, hm, hn, hl, hq⟩ := chk_zero _ _ _ hc
    have HR := Lib.hid (show unpR s.data.toList m n = (B.dg n m (B.leN s.data.toList), 0) by rw [unpR, if_pos hc]; simp)
    rw [hc] at hck
    have HCK := Lib.hid hck
    rw [len_data] at hl
    have hmn : m * n ≤ 64 * 64 := Nat.mul_le_mul hm hn
    have h8 : m * n ≤ 8 * s.size ∧ s.size ≤ 4096 := by rw [hl]; unfold B.sz; omega
    have HBE := Lib.hid (fun base Bk w ho => beach_any base Bk s m n w hn hm h8.1 h8.2 ho)
    clear hck hc hq hl hmn h8
    generalize B.dg n m (B.leN s.data.toList) = xs at *
    go_enter Tryz.func100, Tryz.ntmps100
    go_wp2_with fail
    refine (HCK.out _).mono ?_
    rintro e w1 ⟨rfl, rfl⟩
    go_wp2_with (at_make; refine wpList_make_own _ rfl _ _ 22 rfl w.heap.size 46 i0 (.int .u64 0) 1 Tryz.underlying22 hi hz0 hz1 .i64 .i64 _ m rfl rfl rfl (by rw [hz2]; omega) (by unfold maxLen; omega) (Nat.le_refl _) ?_; intro w0 hown0 hgrow0)
    have hb0 : Below w.heap.size w w0 := (Below.refl _ _).grown hgrow0 (Nat.le_refl _) (fun k hk => by cases hk)
    have hob : OwnB w.heap.size w0.heap.size (w0.alloc (.cells #[.slice (some ⟨w.heap.size, 0, none⟩) 0 m] 22)) [] :=
      ⟨hb0.size, _, heap_alloc_new w0 _, hown0.alloc _⟩
    clear hown0 hgrow0
    go_wp2_with fail
    refine (HBE.out w.heap.size w0.heap.size _ hob).mono ?_
    rintro e w2 ⟨rfl, ho2, hb2⟩
    obtain ⟨a, c, hcell, hrow, hlc, hcm⟩ := ho2.row
    go_wp2_with fail
    go_ret2
    rw [HR.out]
    exact ⟨a, c, rfl, hrow, hlc, hcm, (hb0.alloc hb0.size _).trans hb2⟩
  · have HR := Lib.hid (show unpR s.data.toList many wide = ([], chkR s.data.toList many wide) by rw [unpR, if_neg hc])
    have g1 : ((chkR s.data.toList many wide : Int) != 0) = true := by rw [bne_iff_ne]; omega
    generalize chkR s.data.toList many wide = er at *
    have HCK := Lib.hid hck
    clear hck hc
    go_enter Tryz.func100, Tryz.ntmps100
    go_wp2_with fail
    refine (HCK.out _).mono ?_
    rintro e w1 ⟨rfl, rfl⟩
    go_wp2_with fail
    go_ret2
    rw [HR.out]
    exact ⟨none, 0, rfl, nilRow _ _, Nat.le_refl _, by unfold maxLen; omega, Below.refl _ _⟩
end Go.Proofs.YtmiboibadccceaaGreat
/- The walks of patch.fits, the closures, places with each of them, outside. -/
namespace Go.Proofs.YtmiboibadccceaaGreat
open Go.RowKit
set_option linter.unusedVariables false

set_option maxHeartbeats 400000 in
theorem pfits_any (n k : Nat) (w : World) (hk : k ≤ 64) :
    Calls Tryz.prog 115 #[.int .u64 n, .int .i64 k] w fun e w' => e = .returned (.bool (!P.out k n)) ∧ w = w' := by
  have hq : ((n : Int) / 2 ^ k == 0) = !P.out k n := by
    have e : ((n : Int) / 2 ^ k) = ((n / 2 ^ k : Nat) : Int) := by simp
    rw [e]
    unfold P.out
    rw [Bool.not_not]
    by_cases h : B.bl n ≤ k
    · rw [decide_eq_true h, beq_iff_eq, Nat.div_eq_of_lt ((B.bl_le n k).1 h)]; rfl
    · rw [decide_eq_false h, beq_eq_false_iff_ne]
      intro h0
      have h1 : n / 2 ^ k = 0 := by exact_mod_cast h0
      rcases Nat.div_eq_zero_iff.1 h1 with h2 | h2
      · have := B.pos2 k; omega
      · exact h ((B.bl_le n k).2 h2)
  generalize (!P.out k n) = b at *
  go_enter Tryz.func115, Tryz.ntmps115
  go_wp2_with fail
  go_ret
  exact ⟨rfl, rfl⟩

set_option maxHeartbeats 400000 in
theorem oclos_any (C k n : Nat) (w : World) (hB : Boxed w C 3 (.int .i64 k)) (hk : k ≤ 64) :
    Calls Tryz.prog 114 #[.int .u64 n, .pointer (some ⟨C, 0, none⟩)] w fun e w' => e = .returned (.bool (P.out k n)) ∧ w = w' := by
  have c0 := hB.cell
  have hf := fun W => pfits_any n k W hk
  have hn : (!!P.out k n) = P.out k n := Bool.not_not _
  generalize P.out k n = b at *
  have HF := Lib.hid hf
  clear hf
  cases b
  all_goals
    go_enter Tryz.func114, Tryz.ntmps114
    go_wp2_with fail
    refine (HF.out _).mono ?_
    rintro e w1 ⟨rfl, rfl⟩
    go_wp2_with fail
    go_ret
    exact ⟨rfl, rfl⟩

theorem xor_max64 (b : Nat) (hb : b < 18446744073709551616) : bits .xor .u64 IntKind.u64.max (b : Int) = ((18446744073709551615 - b : Nat) : Int) := by
  have e : (IntKind.u64.max : Int) = ((18446744073709551615 : Nat) : Int) := rfl
  rw [e, bits_xor_u64_nat 18446744073709551615 b (by omega) hb]
  have h := congrArg BitVec.toNat (BitVec.allOnes_xor (x := BitVec.ofNat 64 b))
  rw [BitVec.toNat_xor, BitVec.toNat_allOnes, BitVec.toNat_not, BitVec.toNat_ofNat, Nat.mod_eq_of_lt (show b < 2 ^ 64 by omega)] at h
  have h2 : 18446744073709551615 ^^^ b = 18446744073709551615 - b := h
  rw [h2]

set_option maxHeartbeats 400000 in
theorem rclos_any (C b n : Nat) (w : World) (hB : Boxed w C 46 (.int .u64 b)) (hb : b < 18446744073709551616) :
    Calls Tryz.prog 146 #[.int .u64 n, .pointer (some ⟨C, 0, none⟩)] w fun e w' => e = .returned (.bool (decide (18446744073709551615 - b < n))) ∧ w = w' := by
  have c0 := hB.cell
  have hx := xor_max64 b hb
  have hd : decide (((18446744073709551615 - b : Nat) : Int) < (n : Int)) = decide (18446744073709551615 - b < n) := decide_eq_decide.2 (by omega)
  generalize 18446744073709551615 - b = q at *
  go_enter Tryz.func146, Tryz.ntmps146
  go_wp2_with fail
  go_ret
  exact ⟨rfl, rfl⟩

def IPost (l : List Nat) (w : World) (e : Ending) (w' : World) : Prop :=
  ∃ a c, e = .returned (.slice a l.length c) ∧ IRow w.heap.size l (.slice a l.length c) w' ∧ Below w.heap.size w w'

set_option maxHeartbeats 1000000 in
set_option maxRecDepth 100000 in
theorem places_o (C k : Nat) (w : World) (hB : Boxed w C 3 (.int .i64 k)) (hk : k ≤ 64) (a : Option Addr) (c : Nat) (l : List Nat) (hl : l.length ≤ 64) (hu : Nums w w.heap.size a l) :
    Calls Tryz.prog 113 #[.slice a l.length c, .func (.func 114) #[] #[.pointer (some ⟨C, 0, none⟩)]] w (IPost (P.plc (P.out k) 0 l) w) := by
  have HU := Lib.hid hu
  have HTK := Lib.hid (fun j h => P.plc_take (P.out k) l j h)
  have HLN := Lib.hid (fun j => P.plc_len (P.out k) 0 (l.take j))
  clear hu
  go_enter Tryz.func113, Tryz.ntmps113
  go_wp2_with fail
  go_loopw [5, 6, 7, 10] (fun v _ _ i wr => ∃ j : Nat, j ≤ l.length ∧ i = .int .i64 j ∧ IRow w.heap.size (P.plc (P.out k) 0 (l.take j)) v wr ∧ Below w.heap.size w wr) (fun _ _ _ i _ => l.length - (intOf i).toNat)
  case atStart => exact ⟨0, by omega, rfl, ⟨rfl, Or.inl ⟨rfl, rfl⟩⟩, Below.refl _ _⟩
  case round =>
    obtain ⟨j, hj, rfl, hrow, hbw⟩ := hrel
    by_cases hlt : j < l.length
    · obtain ⟨b, off, rfl, hb, hcc⟩ := HU.out (fun e => by rw [e] at hlt; simp at hlt)
      have cj := (hbw.cell (p := ⟨b, off + j, none⟩) hb).trans (hcc j hlt)
      have HT := Lib.hid (HTK.out j hlt)
      have hln := HLN.out j
      rw [List.length_take] at hln
      have HC := Lib.hid (oclos_any C k (l.getD j 0) wr ((hbw.block C hB.lt).trans hB) hk)
      generalize l.getD j 0 = x at *
      generalize P.plc (P.out k) 0 (l.take j) = acc at *
      have hjI : (j : Int) < (l.length : Int) := by omega
      by_cases ho : P.out k x = true
      · rw [ho] at HC HT
        have HROW := Lib.hid (IRow.alloc_ hrow)
        have hlb : (acc.length + 1) * 8 ≤ 140737488355328 := by omega
        have hb5 : w.heap.size ≤ (wr.alloc (.cells #[.int .i64 (j : Int)] 3)).heap.size := by have := hbw.size; simp; omega
        clear hrow hln hcc ho
        go_wp2_with fail
        refine (HC.out).mono ?_
        rintro e w1 ⟨rfl, rfl⟩
        go_wp2_with (at_builtin; refine wpList_append_onei rfl (.tmp 18) (.tmp 20) rfl w.heap.size _ acc rfl (HROW.out _) wr.heap.size j rfl (World.cell?_alloc_new _ _ _ _) hlb hb5 ?_)
        intro v' w5 hown5 hb6
        go_wp2_with fail
        refine ⟨⟨j + 1, by omega, by go_num, ?_, (hbw.alloc hbw.size _).trans hb6⟩, by simp [intOf]; omega⟩
        rw [HT.out, if_pos trivial]; exact hown5
      · have ho' : P.out k x = false := by simpa using ho
        rw [ho'] at HC HT
        have HROW := Lib.hid hrow
        clear hrow hln hcc ho ho'
        go_wp2_with fail
        refine (HC.out).mono ?_
        rintro e w1 ⟨rfl, rfl⟩
        go_wp2_with fail
        refine ⟨⟨j + 1, by omega, by go_num, ?_, hbw⟩, by simp [intOf]; omega⟩
        rw [HT.out, if_neg (by simp), List.append_nil]; exact HROW.out
    · obtain rfl : j = l.length := by omega
      rw [List.take_length] at hrow
      obtain ⟨a', c', rfl, _⟩ := iRow_nums hrow
      have HN := Lib.hid hrow
      clear hrow
      generalize P.plc (P.out k) 0 l = ps at *
      go_wp2_with fail
      go_ret
      exact ⟨a', c', rfl, HN.out, hbw⟩

/-- is it too much beside the base? -/
def over (b n : Nat) : Bool := decide (18446744073709551615 - b < n)
set_option maxHeartbeats 1000000 in
set_option maxRecDepth 100000 in
theorem places_r (C k : Nat) (w : World) (hB : Boxed w C 46 (.int .u64 k)) (hk : k < 18446744073709551616) (a : Option Addr) (c : Nat) (l : List Nat) (hl : l.length ≤ 64) (hu : Nums w w.heap.size a l) :
    Calls Tryz.prog 113 #[.slice a l.length c, .func (.func 146) #[] #[.pointer (some ⟨C, 0, none⟩)]] w (IPost (P.plc (over k) 0 l) w) := by
  have HU := Lib.hid hu
  have HTK := Lib.hid (fun j h => P.plc_take (over k) l j h)
  have HLN := Lib.hid (fun j => P.plc_len (over k) 0 (l.take j))
  clear hu
  go_enter Tryz.func113, Tryz.ntmps113
  go_wp2_with fail
  go_loopw [5, 6, 7, 10] (fun v _ _ i wr => ∃ j : Nat, j ≤ l.length ∧ i = .int .i64 j ∧ IRow w.heap.size (P.plc (over k) 0 (l.take j)) v wr ∧ Below w.heap.size w wr) (fun _ _ _ i _ => l.length - (intOf i).toNat)
  case atStart => exact ⟨0, by omega, rfl, ⟨rfl, Or.inl ⟨rfl, rfl⟩⟩, Below.refl _ _⟩
  case round =>
    obtain ⟨j, hj, rfl, hrow, hbw⟩ := hrel
    by_cases hlt : j < l.length
    · obtain ⟨b, off, rfl, hb, hcc⟩ := HU.out (fun e => by rw [e] at hlt; simp at hlt)
      have cj := (hbw.cell (p := ⟨b, off + j, none⟩) hb).trans (hcc j hlt)
      have HT := Lib.hid (HTK.out j hlt)
      have hln := HLN.out j
      rw [List.length_take] at hln
      have HC := Lib.hid (show Calls Tryz.prog 146 #[.int .u64 (l.getD j 0 : Nat), .pointer (some ⟨C, 0, none⟩)] wr (fun e w' => e = .returned (.bool (over k (l.getD j 0))) ∧ wr = w') from rclos_any C k (l.getD j 0) wr ((hbw.block C hB.lt).trans hB) hk)
      generalize l.getD j 0 = x at *
      generalize P.plc (over k) 0 (l.take j) = acc at *
      have hjI : (j : Int) < (l.length : Int) := by omega
      by_cases ho : over k x = true
      · rw [ho] at HC HT
        have HROW := Lib.hid (IRow.alloc_ hrow)
        have hlb : (acc.length + 1) * 8 ≤ 140737488355328 := by omega
        have hb5 : w.heap.size ≤ (wr.alloc (.cells #[.int .i64 (j : Int)] 3)).heap.size := by have := hbw.size; simp; omega
        clear hrow hln hcc ho
        go_wp2_with fail
        refine (HC.out).mono ?_
        rintro e w1 ⟨rfl, rfl⟩
        go_wp2_with (at_builtin; refine wpList_append_onei rfl (.tmp 18) (.tmp 20) rfl w.heap.size _ acc rfl (HROW.out _) wr.heap.size j rfl (World.cell?_alloc_new _ _ _ _) hlb hb5 ?_)
        intro v' w5 hown5 hb6
        go_wp2_with fail
        refine ⟨⟨j + 1, by omega, by go_num, ?_, (hbw.alloc hbw.size _).trans hb6⟩, by simp [intOf]; omega⟩
        rw [HT.out, if_pos trivial]; exact hown5
      · have ho' : over k x = false := by simpa using ho
        rw [ho'] at HC HT
        have HROW := Lib.hid hrow
        clear hrow hln hcc ho ho'
        go_wp2_with fail
        refine (HC.out).mono ?_
        rintro e w1 ⟨rfl, rfl⟩
        go_wp2_with fail
        refine ⟨⟨j + 1, by omega, by go_num, ?_, hbw⟩, by simp [intOf]; omega⟩
        rw [HT.out, if_neg (by simp), List.append_nil]; exact HROW.out
    · obtain rfl : j = l.length := by omega
      rw [List.take_length] at hrow
      obtain ⟨a', c', rfl, _⟩ := iRow_nums hrow
      have HN := Lib.hid hrow
      clear hrow
      generalize P.plc (over k) 0 l = ps at *
      go_wp2_with fail
      go_ret
      exact ⟨a', c', rfl, HN.out, hbw⟩

set_option maxHeartbeats 400000 in
theorem outside_any (a : Option Addr) (c : Nat) (l : List Nat) (k : Nat) (w : World) (hk : k ≤ 64) (hl : l.length ≤ 64) (hu : Nums w w.heap.size a l) :
    Calls Tryz.prog 70 #[.slice a l.length c, .int .i64 k] w (IPost (P.plc (P.out k) 0 l) w) := by
  have hmf : ∀ (fn : Fn) (first cap : Array Value) (w : World), (Instr.makeFunc fn first cap).run Tryz.prog w = .ok (.func fn first cap) w := fun _ _ _ _ => rfl
  have hb : Below w.heap.size w (w.alloc (.cells #[.int .i64 (k : Int)] 3)) := (Below.refl _ _).alloc (Nat.le_refl _) _
  have HP := Lib.hid (places_o w.heap.size k (w.alloc (.cells #[.int .i64 (k : Int)] 3)) (heap_alloc_new w _) hk a c l hl (hu.next hb))
  have HB := Lib.hid hb
  clear hb
  generalize P.plc (P.out k) 0 l = ps at *
  go_enter Tryz.func70, Tryz.ntmps70
  go_wp2_with fail
  refine (HP.out).mono ?_
  rintro e w1 ⟨a1, c1, rfl, hn, hb1⟩
  go_wp2_with fail
  go_ret
  exact ⟨a1, c1, rfl, hn.mono (by simp), below_then HB.out hb1⟩
end Go.Proofs.YtmiboibadccceaaGreat
/- The walks of slices.Min, patch.frame, size, cost, best, Cost. -/
namespace Go.Proofs.YtmiboibadccceaaGreat
open Go.RowKit
set_option linter.unusedVariables false

theorem UBlk.row {w : World} {g B : Nat} {l : List Nat} (h : UBlk w g l) (hB : B ≤ g) (hm : l.length ≤ maxLen) : NumRow B l (.slice (some ⟨g, 0, none⟩) l.length l.length) w :=
  ⟨by simp [nv_length], Or.inr ⟨g, l.length, (nv l).toArray, rfl, hB, h, Nat.le_refl _, hm, by simp [nv_length], by rw [List.take_of_length_le (by simp [nv_length])]⟩⟩
set_option maxHeartbeats 1000000 in
set_option maxRecDepth 100000 in
theorem min_any (b off c : Nat) (l : List Nat) (w : World) (h0 : 0 < l.length) (hl : l.length ≤ 64)
    (hc : ∀ i, i < l.length → w.cell? ⟨b, off + i, none⟩ = some (.int .u64 ((l.getD i 0 : Nat) : Int))) :
    Calls Tryz.prog 111 #[.slice (some ⟨b, off, none⟩) l.length c] w fun e w' => e = .returned (.int .u64 (P.base l : Nat)) ∧ w = w' := by
  have HC := Lib.hid hc
  have c0 : w.cell? ⟨b, off, none⟩ = some (.int .u64 ((l.getD 0 0 : Nat) : Int)) := hc 0 h0
  have HB := Lib.hid (show P.base l = P.mn (l.getD 0 0) l by
    cases l with
    | nil => simp at h0
    | cons x t => exact (P.mn_self x t).symm)
  have HM1 := Lib.hid (show P.mn (l.getD 0 0) (l.take 1) = l.getD 0 0 by
    cases l with
    | nil => simp at h0
    | cons x t => simp [P.mn])
  have HTK := Lib.hid (fun k h => P.mn_take (l.getD 0 0) l k h)
  have h1I : ¬ (l.length : Int) < 1 := by omega
  have h1L : decide ((l.length : Int) < 1) = false := decide_eq_false h1I
  have h1N : ¬ l.length < 1 := by omega
  generalize l.getD 0 0 = x0 at *
  clear hc
  go_enter Tryz.func111, Tryz.ntmps111
  go_wp2_with fail
  go_loop [3, 4] (fun m i => ∃ k : Nat, 1 ≤ k ∧ k ≤ l.length ∧ i = .int .i64 k ∧ m = .int .u64 ((P.mn x0 (l.take k) : Nat) : Int)) (fun _ i => l.length - (intOf i).toNat)
  case atStart => exact ⟨1, by omega, by omega, rfl, by rw [HM1.out]⟩
  case round =>
    obtain ⟨k, hk1, hk, rfl, rfl⟩ := hrel
    by_cases hlt : k < l.length
    · have ck := HC.out k hlt
      have HT := Lib.hid (HTK.out k hlt)
      generalize l.getD k 0 = x at *
      generalize P.mn x0 (l.take k) = m at *
      go_wp2_with fail
      exact ⟨⟨k + 1, by omega, by omega, by go_num, by rw [HT.out]; congr 1; omega⟩, by simp [intOf]; omega⟩
    · obtain rfl : k = l.length := by omega
      rw [List.take_length]
      go_wp2_with fail
      go_ret
      exact ⟨by rw [HB.out]; rfl, rfl⟩
def FramePost (l : List Nat) (w : World) (e : Ending) (w' : World) : Prop :=
  ∃ a c, e = .returned (.tuple #[.int .u64 (P.base l : Nat), .slice a l.length c]) ∧ NumRow w.heap.size (P.more l) (.slice a l.length c) w' ∧ Below w.heap.size w w'
theorem ublk_more (l : List Nat) (k : Nat) (hk : k < l.length) :
    ((P.more l).take k ++ List.replicate (l.length - k) 0).set k (l.getD k 0 - P.base l) = (P.more l).take (k + 1) ++ List.replicate (l.length - (k + 1)) 0 := by
  have hm := P.more_length l
  have hlen : ((P.more l).take k).length = k := by rw [List.length_take]; omega
  rw [List.set_append_right _ _ (by omega), hlen, Nat.sub_self, show l.length - k = (l.length - (k + 1)) + 1 by omega, List.replicate_succ, List.set_cons_zero]
  rw [List.take_succ_eq_append_getElem (by omega), List.append_assoc]
  have := P.more_get l k hk
  rw [List.getD_eq_getElem?_getD, List.getElem?_eq_getElem (by omega), Option.getD_some] at this
  rw [this]; rfl
set_option maxHeartbeats 1000000 in
set_option maxRecDepth 100000 in
theorem frame_some (b off c : Nat) (l : List Nat) (w : World) (h0 : 0 < l.length) (hl : l.length ≤ 64) (hx : ∀ x ∈ l, x < 18446744073709551616) (hb : b < w.heap.size)
    (hc : ∀ i, i < l.length → w.cell? ⟨b, off + i, none⟩ = some (.int .u64 ((l.getD i 0 : Nat) : Int))) :
    Calls Tryz.prog 68 #[.slice (some ⟨b, off, none⟩) l.length c] w (FramePost l w) := by
  obtain ⟨i0, hi, hz0, hz1, hz2⟩ := info_parts info_u64
  have HC := Lib.hid hc
  have HMIN := Lib.hid (min_any b off c l w h0 hl hc)
  have HLE := Lib.hid (fun k (h : k < l.length) => P.base_le l _ (getD_mem l k h))
  have HLT := Lib.hid (fun k (h : k < l.length) => hx _ (getD_mem l k h))
  have HST := Lib.hid (fun k h => ublk_more l k h)
  have HML := Lib.hid (P.more_length l)
  have hM : (P.more l).length = l.length := P.more_length l
  have HLN := Lib.hid (fun k (h : k ≤ l.length) => show ((P.more l).take k ++ List.replicate (l.length - k) 0).length = l.length by rw [List.length_append, List.length_take, List.length_replicate, hM]; omega)
  have HEND := Lib.hid (show (P.more l).take l.length = P.more l by rw [← hM]; exact List.take_length)
  have g1 : ((l.length : Int) == 0) = false := by rw [beq_eq_false_iff_ne]; omega
  have HRES : ∀ a c' w', NumRow w.heap.size (P.more l) (.slice a l.length c') w' → Below w.heap.size w w' → FramePost l w (.returned (.tuple #[.int .u64 (P.base l : Nat), .slice a l.length c'])) w' := fun a c' w' h1 h2 => ⟨a, c', rfl, h1, h2⟩
  have HR := Lib.hid HRES
  generalize P.base l = bs at *
  generalize P.more l = mo at *
  clear hc hx hM HRES
  go_enter Tryz.func68, Tryz.ntmps68
  go_wp2_with fail
  refine (HMIN.out).mono ?_
  rintro e w1 ⟨rfl, rfl⟩
  go_wp2_with (at_make; refine wpList_make_full _ rfl _ _ 22 rfl w.heap.size 46 i0 (.int .u64 0) 1 Tryz.underlying22 hi hz0 hz1 .i64 .i64 _ _ l.length rfl rfl rfl rfl (by rw [hz2]; omega) (by unfold maxLen; omega) (Nat.le_refl _) ?_; intro w0 hown0 hgrow0)
  have hb0 : Below w.heap.size w w0 := (Below.refl _ _).grown hgrow0 (Nat.le_refl _) (fun k hk => by cases hk)
  have hblk := made_ublk hown0
  obtain ⟨g, hg⟩ : ∃ g, g = w.heap.size := ⟨_, rfl⟩
  rw [← hg] at hblk ⊢
  have hgl : w.heap.size ≤ g := by omega
  clear hg hown0 hgrow0
  go_wp2_with fail
  go_loopw [6, 7, 18] (fun _ _ i wr => ∃ k : Nat, k ≤ l.length ∧ i = .int .i64 k ∧ UBlk wr g (mo.take k ++ List.replicate (l.length - k) 0) ∧ Below w.heap.size w wr) (fun _ _ i _ => l.length - (intOf i).toNat)
  case atStart => exact ⟨0, by omega, rfl, by simpa using hblk, hb0⟩
  case round =>
    obtain ⟨k, hk, rfl, hub, hbw⟩ := hrel
    by_cases hlt : k < l.length
    · have ck := (hbw.cell (p := ⟨b, off + k, none⟩) hb).trans (HC.out k hlt)
      have hle := HLE.out k hlt
      have hlt64 := HLT.out k hlt
      have HS := Lib.hid (HST.out k hlt)
      have hln := HLN.out k hk
      generalize l.getD k 0 = x at *
      generalize mo.take k ++ List.replicate (l.length - k) 0 = acc at *
      have hw : IntKind.u64.wrap ((x : Int) - (bs : Int)) = ((x - bs : Nat) : Int) := by rw [IntKind.wrap_u64]; omega
      have hw2 : (x : Int) - (bs : Int) = ((x - bs : Nat) : Int) := by omega
      generalize x - bs = y at *
      have u1 := hub.cell k (by omega)
      have u2 := hub.free k
      have hub2 := hub.put k y
      generalize acc.getD k 0 = oz at *
      have hkI : (k : Int) < (l.length : Int) := by omega
      have HUB2 := Lib.hid hub2
      have HLN2 := Lib.hid hln
      have HLE2 := Lib.hid hle
      clear hub hub2 hln hle
      go_wp2_with fail
      exact ⟨⟨k + 1, by omega, by go_num, by rw [← HS.out]; exact HUB2.out, hbw.setCell (p := ⟨g, k, none⟩) hgl _⟩, by simp [intOf]; omega⟩
    · obtain rfl : k = l.length := by omega
      rw [Nat.sub_self, List.replicate_zero, List.append_nil, HEND.out] at hub
      have hrow := hub.row hgl (by rw [HML.out]; unfold maxLen; omega)
      rw [HML.out] at hrow
      have HROW := Lib.hid hrow
      clear hrow hub
      go_wp2_with fail
      go_ret2
      exact HR.out _ _ _ HROW.out hbw
set_option maxHeartbeats 400000 in
theorem frame_nil (a : Option Addr) (c : Nat) (w : World) :
    Calls Tryz.prog 68 #[.slice a 0 c] w (FramePost [] w) := by
  go_enter Tryz.func68, Tryz.ntmps68
  go_wp2_with fail
  go_ret2
  exact ⟨none, 0, rfl, nilRow _ _, Below.refl _ _⟩
theorem frame_any (a : Option Addr) (c : Nat) (l : List Nat) (w : World) (hl : l.length ≤ 64) (hx : ∀ x ∈ l, x < 18446744073709551616) (hu : Nums w w.heap.size a l) :
    Calls Tryz.prog 68 #[.slice a l.length c] w (FramePost l w) := by
  by_cases h : l = []
  · subst h; exact frame_nil a c w
  · obtain ⟨b, off, rfl, hb, hc⟩ := hu h
    exact frame_some b off c l w (by cases l with
      | nil => exact absurd rfl h
      | cons x t => simp) hl hx hb hc
set_option maxHeartbeats 400000 in
theorem psize_any (m k : Nat) (w : World) (hm : m ≤ 64) (hk : k ≤ 64) :
    Calls Tryz.prog 152 #[.int .i64 m, .int .i64 k] w fun e w' => e = .returned (.int .i64 (B.sz (m * k) : Nat)) ∧ w = w' := by
  have hmul := Nat.mul_le_mul hm hk
  have e1 : ((m : Int) * (k : Int)) = ((m * k : Nat) : Int) := by simp
  have hq : (((m * k : Nat) : Int) + 7) / 8 = (B.sz (m * k) : Nat) := by unfold B.sz; omega
  generalize hM : m * k = M at *
  have hw1 : IntKind.i64.wrap ((m : Int) * (k : Int)) = (M : Int) := by rw [e1, IntKind.wrap_i64]; omega
  generalize B.sz M = z at *
  go_enter Tryz.func152, Tryz.ntmps152
  go_wp2_with fail
  go_ret
  refine ⟨?_, rfl⟩
  rw [← hq]; rfl
/-- what places add -/
def addS (m ps : List Nat) : Nat := (ps.map fun a => 1 + V.sz (m.getD a 0)).sum
theorem addS_take (m ps : List Nat) (j : Nat) (h : j < ps.length) : addS m (ps.take (j + 1)) = addS m (ps.take j) + (1 + V.sz (m.getD (ps.getD j 0) 0)) := by
  unfold addS
  rw [List.take_succ_eq_append_getElem h, List.map_append, List.sum_append]
  simp only [List.map_cons, List.map_nil, List.sum_cons, List.sum_nil, List.getD_eq_getElem?_getD, List.getElem?_eq_getElem h, Option.getD_some, Nat.add_zero]
theorem addS_le (m ps : List Nat) : addS m ps ≤ 10 * ps.length := by
  unfold addS
  induction ps with
  | nil => simp
  | cons x t ih => have := V.sz_le (m.getD x 0); simp only [List.map_cons, List.sum_cons, List.length_cons]; omega
set_option maxHeartbeats 1000000 in
set_option maxRecDepth 100000 in
theorem cost_any (a : Option Addr) (c : Nat) (l : List Nat) (k : Nat) (w : World) (hk : k ≤ 64) (hl : l.length ≤ 64) (hx : ∀ x ∈ l, x < 18446744073709551616) (hu : Nums w w.heap.size a l) :
    Calls Tryz.prog 112 #[.slice a l.length c, .int .i64 k] w fun e w' => e = .returned (.int .i64 (P.cost k l : Nat)) ∧ Below w.heap.size w w' := by
  have HU := Lib.hid hu
  have HX := Lib.hid (fun k (h : k < l.length) => hx _ (getD_mem l k h))
  have HO := Lib.hid (outside_any a c l k w hk hl hu)
  have HZ := Lib.hid (fun W => psize_any l.length k W hl hk)
  have hmul := Nat.mul_le_mul hl hk
  have hzb : B.sz (l.length * k) ≤ 4096 := by unfold B.sz; omega
  have hpl := P.plc_len (P.out k) 0 l
  have HPL := Lib.hid (fun a (h : a ∈ P.plc (P.out k) 0 l) => show a < l.length by have := (P.plc_lt (P.out k) 0 l a h).2; omega)
  have HRES := Lib.hid (show P.cost k l = B.sz (l.length * k) + addS l (P.plc (P.out k) 0 l) from rfl)
  have HTK := Lib.hid (fun j h => addS_take l (P.plc (P.out k) 0 l) j h)
  have HLE := Lib.hid (fun ps => addS_le l ps)
  have HGM := Lib.hid (fun j (h : j < (P.plc (P.out k) 0 l).length) => getD_mem (P.plc (P.out k) 0 l) j h)
  generalize P.plc (P.out k) 0 l = ps at *
  generalize B.sz (l.length * k) = z at *
  clear hx hu hmul
  go_enter Tryz.func112, Tryz.ntmps112
  go_wp2_with fail
  refine (HZ.out _).mono ?_
  rintro e w1 ⟨rfl, rfl⟩
  go_wp2_with fail
  refine (HO.out).mono ?_
  rintro e w2 ⟨a2, c2, rfl, r2, hb2⟩
  have N2 := Lib.hid r2.nums
  clear r2
  go_wp2_with fail
  go_loopw [5, 7, 16] (fun s _ i wr => ∃ j : Nat, j ≤ ps.length ∧ i = .int .i64 j ∧ s = .int .i64 ((z + addS l (ps.take j) : Nat) : Int) ∧ Below w2.heap.size w2 wr) (fun _ _ i _ => ps.length - (intOf i).toNat)
  case atStart => exact ⟨0, by omega, rfl, by simp [addS], Below.refl _ _⟩
  case round =>
    obtain ⟨j, hj, rfl, rfl, hbw⟩ := hrel
    by_cases hlt : j < ps.length
    · obtain ⟨b2, off2, rfl, hb2l, hcc2⟩ := N2.out (fun e => by rw [e] at hlt; simp at hlt)
      have cj := (hbw.cell (p := ⟨b2, off2 + j, none⟩) hb2l).trans (hcc2 j hlt)
      have HT := Lib.hid (HTK.out j hlt)
      have hpj := HPL.out _ (HGM.out j hlt)
      have hle := HLE.out (ps.take j)
      rw [List.length_take] at hle
      generalize ps.getD j 0 = p at *
      obtain ⟨b, off, rfl, hb, hcc⟩ := HU.out (fun e => by rw [e] at hpj; simp at hpj)
      have cp := (hbw.cell (p := ⟨b, off + p, none⟩) (show b < w2.heap.size by have := hb2.size; omega)).trans ((hb2.cell (p := ⟨b, off + p, none⟩) hb).trans (hcc p hpj))
      have hxp := HX.out p hpj
      generalize l.getD p 0 = x at *
      have HW := Lib.hid (fun W => write_any x W hxp)
      have hel := V.enc_length x
      have hse : (str (V.enc x)).size = V.sz x := by rw [str_size, hel]
      have hs9 := V.sz_le x
      obtain ⟨t, ht⟩ : ∃ t, t = str (V.enc x) := ⟨_, rfl⟩
      rw [← ht] at hse
      have HW2 := Lib.hid (fun W => show Calls Tryz.prog 71 #[.int .u64 (x : Int)] W (fun e w' => e = .returned (.string t) ∧ Below W.heap.size W w') by rw [ht]; exact HW.out W)
      generalize addS l (ps.take j) = sm at *
      have HSE := Lib.hid hse
      have hts : t.size ≤ 9 := by omega
      have hjI : (j : Int) < (ps.length : Int) := by omega
      have hpI : (p : Int) < (l.length : Int) := by omega
      clear hcc hcc2 HW ht hel hse
      go_wp2_with fail
      refine (HW2.out _).mono ?_
      rintro e w3 ⟨rfl, hb3⟩
      go_wp2_with fail
      refine ⟨⟨j + 1, by omega, by go_num, by rw [HT.out, ← HSE.out]; congr 1; omega, below_then hbw hb3⟩, by simp [intOf]; omega⟩
    · obtain rfl : j = ps.length := by omega
      rw [List.take_length]
      go_wp2_with fail
      go_ret
      exact ⟨by rw [HRES.out]; rfl, below_then hb2 hbw⟩
set_option maxHeartbeats 1000000 in
set_option maxRecDepth 100000 in
theorem best_any (a : Option Addr) (c : Nat) (l : List Nat) (w : World) (hl : l.length ≤ 64) (hx : ∀ x ∈ l, x < 18446744073709551616) (hu : Nums w w.heap.size a l) :
    Calls Tryz.prog 69 #[.slice a l.length c] w fun e w' => e = .returned (.int .i64 (P.best l : Nat)) ∧ Below w.heap.size w w' := by
  have HC := Lib.hid (fun W (k : Nat) (hk : k ≤ 64) (h : Nums W W.heap.size a l) => cost_any a c l k W hk hl hx h)
  have HU := Lib.hid hu
  have HR := Lib.hid (show P.best l = P.upB (fun w => P.cost w l) 64 from rfl)
  obtain ⟨f, hf⟩ : ∃ f, f = fun w => P.cost w l := ⟨_, rfl⟩
  rw [← hf] at HR
  have HC2 := Lib.hid (fun W (k : Nat) (hk : k ≤ 64) (h : Nums W W.heap.size a l) => show Calls Tryz.prog 112 #[.slice a l.length c, .int .i64 k] W (fun e w' => e = .returned (.int .i64 (f k : Nat)) ∧ Below W.heap.size W w') by rw [hf]; exact HC.out W k hk h)
  clear hu hx HC hf
  have c0 := HC2.out w 0 (by omega) HU.out
  have HC0 := Lib.hid (show Calls Tryz.prog 112 #[.slice a l.length c, .int .i64 0] w (fun e w' => e = .returned (.int .i64 (f 0 : Nat)) ∧ Below w.heap.size w w') from c0)
  clear c0
  go_enter Tryz.func69, Tryz.ntmps69
  go_wp2_with fail
  refine (HC0.out).mono ?_
  rintro e w1 ⟨rfl, hb1⟩
  go_wp2_with fail
  go_loopw [3, 4, 5, 6, 9] (fun wd ls _ _ i wr => ∃ j u : Nat, j ≤ 65 ∧ i = .int .i64 j ∧ Hid (u = P.upB f (j - 1)) ∧ wd = .int .i64 u ∧ ls = .int .i64 (f u : Nat) ∧ Below w.heap.size w wr) (fun _ _ _ _ i _ => 65 - (intOf i).toNat)
  case atStart => exact ⟨0, 0, by omega, rfl, Lib.hid rfl, rfl, rfl, hb1⟩
  case round =>
    obtain ⟨j, u, hj, rfl, HUP, rfl, rfl, hbw⟩ := hrel
    by_cases hlt : j < 65
    · have HCJ := Lib.hid (HC2.out wr j (by omega) (HU.out.next hbw))
      by_cases hless : f j < f u
      · have hj0 : j ≠ 0 := fun e => by subst e; have := HUP.out; rw [this] at hless; exact absurd hless (Nat.lt_irrefl _)
        have HN := Lib.hid (show j = P.upB f (j + 1 - 1) by
          obtain ⟨i, rfl⟩ : ∃ i, j = i + 1 := ⟨j - 1, by omega⟩
          have h := HUP.out
          rw [Nat.add_sub_cancel] at h ⊢
          show _ = if _ then _ else _
          rw [← h, if_pos hless])
        have g1 : decide (f j < f u) = true := decide_eq_true hless
        clear hless hj0 HUP
        go_wp2_with fail
        refine (HCJ.out).mono ?_
        rintro e w2 ⟨rfl, hb2⟩
        go_wp2_with fail
        exact ⟨⟨j + 1, j, by omega, by go_num, HN, rfl, rfl, hbw.trans (hb2.mono hbw.size)⟩, by simp [intOf]; omega⟩
      · have HN := Lib.hid (show u = P.upB f (j + 1 - 1) by
          have h := HUP.out
          rw [Nat.add_sub_cancel]
          cases j with
          | zero => exact h
          | succ i =>
            rw [Nat.add_sub_cancel] at h
            show _ = if _ then _ else _
            rw [← h, if_neg hless])
        have g1 : decide (f j < f u) = false := decide_eq_false hless
        clear hless HUP
        go_wp2_with fail
        refine (HCJ.out).mono ?_
        rintro e w2 ⟨rfl, hb2⟩
        go_wp2_with fail
        exact ⟨⟨j + 1, u, by omega, by go_num, HN, rfl, rfl, hbw.trans (hb2.mono hbw.size)⟩, by simp [intOf]; omega⟩
    · obtain rfl : j = 65 := by omega
      have HFIN := Lib.hid (show u = P.best l by rw [HR.out]; exact HUP.out)
      go_wp2_with fail
      go_ret
      exact ⟨by rw [← HFIN.out]; rfl, hbw⟩
/-- what Cost answers -/
def costR (l : List Nat) (wide : Int) : Nat × Nat := if wide < 0 ∨ 64 < wide then (0, 3) else if 64 < l.length then (0, 2) else (P.cost wide.toNat (P.more l), 0)
end Go.Proofs.YtmiboibadccceaaGreat
/- The walk of patch.mend. -/
namespace Go.Proofs.YtmiboibadccceaaGreat
open Go.RowKit
set_option linter.unusedVariables false

def MendPost (r : List Nat × Nat) (Bs : Nat) (A : Option Addr) (N c : Nat) (W : World) (e : Ending) (w' : World) : Prop :=
  e = .returned (.int .i64 r.2) ∧ NumRow Bs r.1 (.slice A N c) w' ∧ Below Bs W w'

theorem mend_nil (w n : Nat) (m : List Nat) (nx : Nat) : P.mend w (n + 1) m [] nx = (m, 5) := rfl
theorem mend_end0 (w : Nat) (m : List Nat) (nx : Nat) : P.mend w 0 m [] nx = (m, 0) := rfl
theorem mend_end1 (w : Nat) (m : List Nat) (s : List UInt8) (nx : Nat) (h : s ≠ []) : P.mend w 0 m s nx = (m, 1) := by
  cases s with
  | nil => exact absurd rfl h
  | cons _ _ => rfl

set_option maxHeartbeats 2000000 in
set_option maxRecDepth 100000 in
theorem mend_any (Bs : Nat) (A : Option Addr) (N c many wide : Nat) (m : List Nat) (s : ByteArray) (W : World) (hB : Bs ≤ W.heap.size) (hs : s.size ≤ maxLen) (hk : wide ≤ 64) (hmany : many ≤ 255) (hN : m.length = N) (hN64 : N ≤ 64) (hrow : NumRow Bs m (.slice A N c) W) :
    Calls Tryz.prog 162 #[.slice A N c, .string s, .int .i64 many, .int .i64 wide] W (MendPost (P.mend wide many m s.data.toList 0) Bs A N c W) := by
  have hmax := hs
  unfold maxLen at hmax
  generalize hR : P.mend wide many m s.data.toList 0 = R
  have HR := Lib.hid hR
  have HN := Lib.hid hN
  clear hR hN
  go_enter Tryz.func162, Tryz.ntmps162
  go_wp2_with fail
  go_loopw [1, 9, 15] (fun sv bf i wr => ∃ (j nx : Nat) (t : ByteArray) (b : Int) (xs : List Nat), j ≤ many ∧ i = .int .i64 j ∧ sv = .string t ∧ bf = .int .i64 b ∧ Hid (b = (nx : Int) - 1) ∧ Hid (P.mend wide (many - j) xs t.data.toList nx = R) ∧ t.size ≤ s.size ∧ Hid (xs.length = N) ∧ -1 ≤ b ∧ b ≤ 255 ∧ NumRow Bs xs (.slice A N c) wr ∧ Below Bs W wr ∧ Bs ≤ wr.heap.size) (fun _ _ i _ => many - (intOf i).toNat)
  case atStart => exact ⟨0, 0, s, -1, m, by omega, rfl, rfl, rfl, Lib.hid rfl, HR, Nat.le_refl _, HN, by omega, by omega, hrow, Below.refl _ _, hB⟩
  case round =>
    obtain ⟨j, nx, t, b, xs, hj, rfl, rfl, rfl, HBN, HM, hts, HXL, hb1, hb2, hnr, hbw, hBw⟩ := hrel
    by_cases hlt : j < many
    · have hjI : (j : Int) < (many : Int) := by omega
      obtain ⟨q, hq⟩ : ∃ q, many - j = q + 1 := ⟨many - j - 1, by omega⟩
      have hM := HM.out
      rw [hq] at hM
      have HQ := Lib.hid hq
      clear hq HM
      by_cases h0 : t.size = 0
      · have he := empty_true t h0
        rw [data_empty t h0, mend_nil] at hM
        have HM := Lib.hid hM
        clear hM
        go_wp2_with fail
        go_ret
        exact ⟨by rw [← HM.out]; rfl, by rw [← HM.out]; exact hnr, hbw⟩
      · have he := empty_false t h0
        have hp : 0 < t.size := by omega
        have hpI : (0 : Int) < (t.size : Int) := by omega
        obtain ⟨tl, hd⟩ := head_cons t hp
        have hdt : (t.extract 1 t.size).data.toList = tl := by rw [cut_data, hd]; rfl
        rw [hd] at hM
        unfold P.mend at hM
        have hu8 := t[0].toNat_lt
        obtain ⟨cc, hcc⟩ : ∃ cc, cc = t[0].toNat := ⟨_, rfl⟩
        have hc256 : cc < 256 := by omega
        have HW := Lib.hid (show wrap64 (t[0].toNat : Int) = (cc : Int) by unfold wrap64; omega)
        rw [← hcc] at hM
        have hsl1 : (1 : Int) ≤ (t.size : Int) := by omega
        have HDT := Lib.hid hdt
        clear hcc hd hdt hu8
        by_cases h1 : xs.length ≤ cc
        · rw [if_pos h1] at hM
          have HM := Lib.hid hM
          rw [HXL.out] at h1
          have g1 : decide (N ≤ cc) = true := decide_eq_true h1
          clear hM
          have hw64 := HW.out
          go_wp2_with fail
          go_ret
          exact ⟨by rw [← HM.out]; rfl, by rw [← HM.out]; exact hnr, hbw⟩
        rw [if_neg h1] at hM
        have hcN : cc < N := by have := HXL.out; omega
        have g1 : decide (N ≤ cc) = false := decide_eq_false (by omega)
        have hcNI : (cc : Int) < (N : Int) := by omega
        have hcx : cc < xs.length := by omega
        clear h1
        by_cases h2 : cc < nx
        · rw [if_pos h2] at hM
          have HM := Lib.hid hM
          have g2 : decide ((cc : Int) ≤ b) = true := decide_eq_true (by have := HBN.out; omega)
          clear hM
          have hw64 := HW.out
          go_wp2_with fail
          go_ret
          exact ⟨by rw [← HM.out]; rfl, by rw [← HM.out]; exact hnr, hbw⟩
        rw [if_neg h2] at hM
        have hbc : b < (cc : Int) := by have := HBN.out; omega
        have g2 : decide ((cc : Int) ≤ b) = false := decide_eq_false (by omega)
        obtain ⟨g, rfl, hclr, hgB, hgw⟩ := hnr.form (fun e => by rw [e] at hcx; simp at hcx)
        have ck := hnr.cell cc hcx
        have fk := hnr.free cc
        clear h2 hclr
        by_cases h3 : xs.getD cc 0 ≠ 0
        · rw [if_pos h3] at hM
          have HM := Lib.hid hM
          generalize xs.getD cc 0 = x at *
          have g3 : ((x : Int) != 0) = true := by rw [bne_iff_ne]; omega
          clear hM
          have hw64 := HW.out
          go_wp2_with fail
          go_ret
          exact ⟨by rw [← HM.out]; rfl, by rw [← HM.out]; exact hnr, hbw⟩
        rw [if_neg h3] at hM
        generalize xs.getD cc 0 = x at *
        have g3 : ((x : Int) != 0) = false := by rw [bne_eq_false_iff_eq]; omega
        clear h3
        have hrd := fun W => vread_any (t.extract 1 t.size) W (by simp; unfold maxLen; omega)
        rw [HDT.out] at hrd
        have hbad := V.rd_bad tl
        have hok := fun n k (h : V.rd tl = (n, k, 0)) => V.rd_ok tl n k h
        generalize V.rd tl = r at *
        obtain ⟨n, k, er⟩ := r
        simp only at hM hbad
        have HRD := Lib.hid hrd
        clear hrd
        by_cases h4 : er ≠ 0
        · rw [if_pos h4] at hM
          have HM := Lib.hid hM
          have g4 : ((er : Int) != 0) = true := by rw [bne_iff_ne]; omega
          clear hM hbad hok
          have hw64 := HW.out
          go_wp2_with fail
          refine (HRD.out _).mono ?_
          rintro e w2 ⟨rfl, hbb⟩
          go_wp2_with fail
          go_ret
          exact ⟨by rw [← HM.out]; rfl, by rw [← HM.out]; exact hnr.below hbb, hbw.trans (hbb.mono hBw)⟩
        rw [if_neg h4] at hM
        obtain rfl : er = 0 := by omega
        obtain ⟨k1, k2, _, kn, k9, _⟩ := hok n k rfl
        clear h4 hbad hok
        have HPF := Lib.hid (fun W => pfits_any n wide W hk)
        by_cases h5 : B.bl n ≤ wide
        · rw [if_pos h5] at hM
          have HM := Lib.hid hM
          rw [show (!P.out wide n) = true by unfold P.out; rw [Bool.not_not]; exact decide_eq_true h5] at HPF
          clear hM h5
          have hw64 := HW.out
          go_wp2_with fail
          refine (HRD.out _).mono ?_
          rintro e w2 ⟨rfl, hbb⟩
          go_wp2_with fail
          refine (HPF.out _).mono ?_
          rintro e w3 ⟨rfl, rfl⟩
          go_wp2_with fail
          go_ret
          exact ⟨by rw [← HM.out]; rfl, by rw [← HM.out]; exact hnr.below hbb, hbw.trans (hbb.mono hBw)⟩
        rw [if_neg h5] at hM
        have HM := Lib.hid hM
        rw [show (!P.out wide n) = false by unfold P.out; rw [Bool.not_not]; exact decide_eq_false h5] at HPF
        have htk : tl.length + 1 = t.size := by have h := HDT.out; have := congrArg List.length h; rw [len_data] at this; simp at this; omega
        have hks : 1 + k ≤ t.size := by omega
        have hksI : (1 : Int) + (k : Int) ≤ (t.size : Int) := by omega
        have hkI : IntKind.i64.wrap ((1 : Int) + (k : Int)) = ((1 + k : Nat) : Int) := by rw [IntKind.wrap_i64]; omega
        have hdk : (t.extract (1 + k) t.size).data.toList = tl.drop k := by
          rw [cut_data, ← List.drop_drop, ← HDT.out, cut_data]
        have HDK := Lib.hid hdk
        have hNR := Lib.hid hnr
        clear hM h5 hdk hnr htk
        have hw64 := HW.out
        go_wp2_with fail
        refine (HRD.out _).mono ?_
        rintro e w2 ⟨rfl, hbb⟩
        go_wp2_with fail
        refine (HPF.out _).mono ?_
        rintro e w3 ⟨rfl, rfl⟩
        clear hw64
        have hc2 : w2.cell? ⟨g, cc, none⟩ = some (.int .u64 (x : Int)) := (hbb.cell (p := ⟨g, cc, none⟩) hgw).trans ck
        have hf2 : w2.frozen? ⟨g, cc, none⟩ = false := (hbb.frozen (p := ⟨g, cc, none⟩) hgw).trans fk
        have HN2 := Lib.hid ((hNR.out.below hbb).put cc n)
        have HB2 := Lib.hid ((hbw.trans (hbb.mono hBw)).setCell (p := ⟨g, cc, none⟩) hgB (.int .u64 (n : Int)))
        have HS2 := Lib.hid (show Bs ≤ (w2.setCell ⟨g, cc, none⟩ (.int .u64 (n : Int))).heap.size by have := hbb.size; simp; omega)
        have HXL2 := Lib.hid (show (xs.set cc n).length = N by rw [List.length_set]; exact HXL.out)
        have HM2 := Lib.hid (show P.mend wide (many - (j + 1)) (xs.set cc n) (t.extract (1 + k) t.size).data.toList (cc + 1) = R by rw [HDK.out, show many - (j + 1) = q by have := HQ.out; omega]; exact HM.out)
        have hsz2 : (t.extract (1 + k) t.size).size ≤ s.size := by simp; omega
        obtain ⟨t2, ht2⟩ : ∃ t2, t2 = t.extract (1 + k) t.size := ⟨_, rfl⟩
        go_wp2_with fail
        exact ⟨⟨j + 1, cc + 1, _, (cc : Int), xs.set cc n, by omega, by go_num, rfl, rfl, Lib.hid (by omega), HM2, hsz2, HXL2, by omega, by omega, HN2.out, HB2.out, HS2.out⟩, by simp [intOf]; omega⟩
    · obtain rfl : j = many := by omega
      have hM := HM.out
      rw [Nat.sub_self] at hM
      by_cases h0 : t.size = 0
      · have he := empty_true t h0
        rw [data_empty t h0, mend_end0] at hM
        have HM := Lib.hid hM
        clear hM
        go_wp2_with fail
        go_ret
        exact ⟨by rw [← HM.out]; rfl, by rw [← HM.out]; exact hnr, hbw⟩
      · have he := empty_false t h0
        rw [mend_end1 _ _ _ _ (data_ne t h0)] at hM
        have HM := Lib.hid hM
        clear hM
        go_wp2_with fail
        go_ret
        exact ⟨by rw [← HM.out]; rfl, by rw [← HM.out]; exact hnr, hbw⟩
end Go.Proofs.YtmiboibadccceaaGreat
/- The walk of patch.parse. -/
namespace Go.Proofs.YtmiboibadccceaaGreat
open Go.RowKit
set_option linter.unusedVariables false

/-- what parse answers -/
def pparseR (s : List UInt8) (many : Nat) : Nat × List Nat × Nat :=
  if (P.head s many).2.2.2.2.2 ≠ 0 then (0, [], (P.head s many).2.2.2.2.2)
  else ((P.head s many).1, P.mend (P.head s many).2.1 (P.head s many).2.2.2.2.1 (P.head s many).2.2.1 (P.head s many).2.2.2.1 0)
theorem pread_eq (s : List UInt8) (many : Nat) : P.readN s many = if (pparseR s many).2.2 ≠ 0 then ([], (pparseR s many).2.2) else P.fin (pparseR s many).1 ((pparseR s many).2.1, 0) := by
  unfold P.readN pparseR
  generalize P.head s many = h
  by_cases he : h.2.2.2.2.2 ≠ 0
  · simp only [if_pos he]
  · simp only [if_neg he]
    generalize P.mend h.2.1 h.2.2.2.2.1 h.2.2.1 h.2.2.2.1 0 = m
    obtain ⟨xs, er⟩ := m
    unfold P.fin
    by_cases h2 : er ≠ 0
    · simp only [if_pos h2]
    · obtain rfl : er = 0 := by omega
      simp

def PPost (r : Nat × List Nat × Nat) (w : World) (e : Ending) (w' : World) : Prop :=
  ∃ a n c, e = .returned (.tuple #[.int .u64 r.1, .slice a n c, .int .i64 r.2.2]) ∧ n = r.2.1.length ∧ NumRow w.heap.size r.2.1 (.slice a n c) w' ∧ Below w.heap.size w w'
theorem PPost.none {w w' : World} (er : Nat) (h : Below w.heap.size w w') : PPost (0, [], er) w (.returned (.tuple #[.int .u64 0, .slice none 0 0, .int .i64 er])) w' :=
  ⟨Option.none, 0, 0, rfl, rfl, nilRow _ _, h⟩

theorem head_bad (s : List UInt8) (many er : Nat) (h : (P.head s many).2.2.2.2.2 = er) (he : er ≠ 0) : pparseR s many = (0, [], er) := by
  unfold pparseR; rw [h, if_pos he]
theorem head_ok (s : List UInt8) (many b w out : Nat) (p : List Nat) (u : List UInt8) (h : P.head s many = (b, w, p, u, out, 0)) : pparseR s many = (b, P.mend w out p u 0) := by
  unfold pparseR; rw [h]; simp

set_option maxHeartbeats 2000000 in
set_option maxRecDepth 100000 in
theorem pparse_any (s : ByteArray) (many : Nat) (w : World) (hs : s.size ≤ maxLen) (hm : many ≤ 64) :
    Calls Tryz.prog 145 #[.string s, .int .i64 many] w (PPost (pparseR s.data.toList many) w) := by
  have hmax := hs
  unfold maxLen at hmax
  have hv := fun w => vread_any s w hs
  have hbad := V.rd_bad s.data.toList
  have hok := fun n k (h : V.rd s.data.toList = (n, k, 0)) => V.rd_ok s.data.toList n k h
  have hhd : P.head s.data.toList many = P.head s.data.toList many := rfl
  conv at hhd => rhs; unfold P.head
  obtain ⟨b, k, er, hr⟩ : ∃ b k er, V.rd s.data.toList = (b, k, er) := ⟨_, _, _, rfl⟩
  rw [hr] at hv hbad hok hhd
  simp only at hbad hhd
  have HV := Lib.hid hv
  clear hv hr
  by_cases he : er ≠ 0
  · rw [if_pos he] at hhd
    have HR := Lib.hid (head_bad _ _ er (congrArg (fun x => x.2.2.2.2.2) hhd) he)
    have g1 : ((er : Int) != 0) = true := by rw [bne_iff_ne]; omega
    clear hhd hbad hok
    go_enter Tryz.func145, Tryz.ntmps145
    go_wp2_with fail
    refine (HV.out _).mono ?_
    rintro e1 w1 ⟨rfl, hb⟩
    go_wp2_with fail
    go_ret3
    rw [HR.out]
    exact PPost.none er hb
  rw [if_neg he] at hhd
  obtain rfl : er = 0 := by omega
  obtain ⟨k1, k2, hx1, hb64, k9, hx2⟩ := hok b k rfl
  clear hx1 hx2
  rw [len_data] at k2
  clear he hbad hok
  have hkI : IntKind.i64.wrap ((k : Int) + 2) = (k : Int) + 2 := by rw [IntKind.wrap_i64]; omega
  by_cases h2 : s.size < k + 2
  · rw [if_pos (by rw [List.length_drop, len_data]; omega)] at hhd
    have HR := Lib.hid (head_bad _ _ 5 (congrArg (fun x => x.2.2.2.2.2) hhd) (by decide))
    have g2 : decide ((s.size : Int) < (k : Int) + 2) = true := decide_eq_true (by omega)
    clear hhd
    go_enter Tryz.func145, Tryz.ntmps145
    go_wp2_with fail
    refine (HV.out _).mono ?_
    rintro e1 w1 ⟨rfl, hb⟩
    go_wp2_with fail
    go_ret3
    rw [HR.out]
    exact PPost.none 5 hb
  rw [if_neg (by rw [List.length_drop, len_data]; omega)] at hhd
  have g2 : decide ((s.size : Int) < (k : Int) + 2) = false := decide_eq_false (by omega)
  have hk1 : k < s.size := by omega
  have hk2 : k + 1 < s.size := by omega
  have e0 : (s.data.toList.drop k).getD 0 0 = s[k] := by
    simp [List.getD, List.getElem?_drop, ByteArray.getElem_eq_getElem_data, hk1]
  have e1 : (s.data.toList.drop k).getD 1 0 = s[k + 1] := by
    simp [List.getD, List.getElem?_drop, ByteArray.getElem_eq_getElem_data, hk2]
  rw [e0, e1] at hhd
  have hu1 := s[k].toNat_lt
  have hu2 := s[k + 1].toNat_lt
  obtain ⟨wd, hwd⟩ : ∃ wd, wd = s[k].toNat := ⟨_, rfl⟩
  obtain ⟨ct, hct⟩ : ∃ ct, ct = s[k + 1].toNat := ⟨_, rfl⟩
  rw [← hwd, ← hct] at hhd
  have hwb : wd < 256 := by omega
  have hcb : ct < 256 := by omega
  have HW1 := Lib.hid (show wrap64 (s[k].toNat : Int) = (wd : Int) by unfold wrap64; omega)
  have HW2 := Lib.hid (show wrap64 (s[k + 1].toNat : Int) = (ct : Int) by unfold wrap64; omega)
  have hkI1 : IntKind.i64.wrap ((k : Int) + 1) = (k : Int) + 1 := by rw [IntKind.wrap_i64]; omega
  have hk0 : (0 : Int) ≤ (k : Int) := by omega
  have hk10 : (0 : Int) ≤ (k : Int) + 1 := by omega
  have hksI : (k : Int) < (s.size : Int) := by omega
  have hks1I : (k : Int) + 1 < (s.size : Int) := by omega
  have hkt1 : ((k : Int) + 1).toNat = k + 1 := by omega
  have hk2s : (k : Int) + 2 ≤ (s.size : Int) := by omega
  clear hwd hct e0 e1 hu1 hu2 h2
  by_cases h64 : 64 < wd
  · rw [if_pos h64] at hhd
    have HR := Lib.hid (head_bad _ _ 3 (congrArg (fun x => x.2.2.2.2.2) hhd) (by decide))
    have g3 : decide ((64 : Int) < (wd : Int)) = true := decide_eq_true (by omega)
    clear hhd
    go_enter Tryz.func145, Tryz.ntmps145
    go_wp2_with fail
    refine (HV.out _).mono ?_
    rintro e1 w1 ⟨rfl, hb⟩
    have hw1 := HW1.out
    have hw2 := HW2.out
    go_wp2_with fail
    go_quiet (fail)
    rw [hw1, hw2]
    clear hw1 hw2
    go_wp2_with fail
    go_ret3
    rw [HR.out]
    exact PPost.none 3 (below_drewN hb _)
  rw [if_neg h64] at hhd
  have g3 : decide ((64 : Int) < (wd : Int)) = false := decide_eq_false (by omega)
  have hkt2 : ((k : Int) + 2).toNat = k + 2 := by omega
  have hwd64 : wd ≤ 64 := by omega
  have HZ := Lib.hid (fun W => psize_any many wd W hm hwd64)
  have hmul := Nat.mul_le_mul hm hwd64
  have hzb : B.sz (many * wd) ≤ 512 := by unfold B.sz; omega
  have hdT : (s.extract (k + 2) s.size).data.toList = (s.data.toList.drop k).drop 2 := by rw [cut_data, List.drop_drop]
  rw [← hdT] at hhd
  have hTs : (s.extract (k + 2) s.size).size = s.size - (k + 2) := by simp
  rw [len_data, hTs] at hhd
  by_cases h5 : s.size - (k + 2) < B.sz (many * wd)
  · rw [if_pos h5] at hhd
    have HR := Lib.hid (head_bad _ _ 5 (congrArg (fun x => x.2.2.2.2.2) hhd) (by decide))
    generalize B.sz (many * wd) = z at *
    clear hhd hdT hTs
    go_enter Tryz.func145, Tryz.ntmps145
    go_wp2_with fail
    refine (HV.out _).mono ?_
    rintro e1 w1 ⟨rfl, hb⟩
    have hw1 := HW1.out
    have hw2 := HW2.out
    go_wp2_with fail
    go_quiet (fail)
    rw [hw1, hw2]
    clear hw1 hw2
    go_wp2_with fail
    refine (HZ.out _).mono ?_
    rintro e2 w2 ⟨rfl, rfl⟩
    go_wp2_with fail
    go_ret3
    rw [HR.out]
    exact PPost.none 5 (below_drewN hb _)
  rw [if_neg h5] at hhd
  have hd1 : ((s.extract (k + 2) s.size).extract 0 (B.sz (many * wd))).data.toList = (s.extract (k + 2) s.size).data.toList.take (B.sz (many * wd)) := take_data _ _
  have hl1 : ((s.extract (k + 2) s.size).data.toList.take (B.sz (many * wd))).length = B.sz (many * wd) := by rw [List.length_take, len_data, hTs]; omega
  have hun := fun W => unpackr_any ((s.extract (k + 2) s.size).extract 0 (B.sz (many * wd))) (many : Int) (wd : Int) W (by rw [← len_data, hd1, hl1]; unfold maxLen; omega)
  rw [hd1, unpR_eq _ many wd hm hwd64 hl1] at hun
  have hdl : (B.dg wd many (B.leN ((s.extract (k + 2) s.size).data.toList.take (B.sz (many * wd))))).length = many := B.dg_length _ _ _
  have hd2 : ((s.extract (k + 2) s.size).extract (B.sz (many * wd)) (s.extract (k + 2) s.size).size).data.toList = (s.extract (k + 2) s.size).data.toList.drop (B.sz (many * wd)) := cut_data _ _
  have hd3 : ((s.extract (k + 2) s.size).extract (B.sz (many * wd)) (s.extract (k + 2) s.size).size).size ≤ maxLen := by simp; unfold maxLen; omega
  rw [hTs] at hd2 hd3
  generalize B.dg wd many (B.leN ((s.extract (k + 2) s.size).data.toList.take (B.sz (many * wd)))) = pk at *
  generalize B.leN ((s.extract (k + 2) s.size).data.toList.take (B.sz (many * wd))) / 2 ^ (many * wd) = top at *
  generalize hU : (s.extract (k + 2) s.size).data.toList.drop (B.sz (many * wd)) = U at *
  clear hU
  by_cases h6 : top ≠ 0
  · rw [if_pos h6] at hhd hun
    have HR := Lib.hid (head_bad _ _ 1 (congrArg (fun x => x.2.2.2.2.2) hhd) (by decide))
    have HUN := Lib.hid hun
    generalize B.sz (many * wd) = z at *
    have hzs : z ≤ s.size - (k + 2) := by omega
    clear hhd hdT hTs hd1 hl1 hd2 hd3 hun hdl
    go_enter Tryz.func145, Tryz.ntmps145
    go_wp2_with fail
    refine (HV.out _).mono ?_
    rintro e1 w1 ⟨rfl, hb⟩
    have hw1 := HW1.out
    have hw2 := HW2.out
    go_wp2_with fail
    go_quiet (fail)
    rw [hw1, hw2]
    clear hw1 hw2
    go_wp2_with fail
    refine (HZ.out _).mono ?_
    rintro e2 w2 ⟨rfl, rfl⟩
    go_wp2_with fail
    refine (HUN.out _).mono ?_
    rintro e3 w3 ⟨a3, c3, rfl, hr3, _, _, hb3⟩
    go_wp2_with fail
    go_ret3
    rw [HR.out]
    exact PPost.none 1 (below_then (below_drewN hb _) hb3)
  rw [if_neg h6] at hhd hun
  have HR := Lib.hid (head_ok _ _ _ _ _ _ _ hhd)
  have HUN := Lib.hid (fun W => show Calls Tryz.prog 100 #[.string ((s.extract (k + 2) s.size).extract 0 (B.sz (many * wd))), .int .i64 many, .int .i64 wd] W (fun e w' => ∃ a c, e = .returned (.tuple #[.slice a many c, .int .i64 0]) ∧ NumRow W.heap.size pk (.slice a many c) w' ∧ Below W.heap.size W w') from
    (hun W).mono fun e w' ⟨a, c, he, hr, _, _, hb⟩ => ⟨a, c, by rw [he]; simp only [hdl]; rfl, by simp only [hdl] at hr; exact hr, hb⟩)
  have HD2 := Lib.hid hd2
  have HD3 := Lib.hid hd3
  generalize B.sz (many * wd) = z at *
  have hzs : z ≤ s.size - (k + 2) := by omega
  have HME := Lib.hid (fun Bs A c (W : World) (hB : Bs ≤ W.heap.size) (t : ByteArray) (ht : t.data.toList = U) (hsz : t.size ≤ maxLen) hrow => show Calls Tryz.prog 162 #[.slice A many c, .string t, .int .i64 ct, .int .i64 wd] W (MendPost (P.mend wd ct pk U 0) Bs A many c W) by
    rw [← ht]; exact mend_any Bs A many c ct wd pk t W hB hsz hwd64 (by omega) hdl hm hrow)
  have hml := P.mend_length wd ct pk U 0
  rw [hdl] at hml
  have HDL := Lib.hid hdl
  have HMEL := Lib.hid hml
  generalize P.mend wd ct pk U 0 = M at *
  clear hhd hdT hTs hd1 hl1 hd2 hd3 hun hml
  go_enter Tryz.func145, Tryz.ntmps145
  go_wp2_with fail
  refine (HV.out _).mono ?_
  rintro e1 w1 ⟨rfl, hb⟩
  have hw1 := HW1.out
  have hw2 := HW2.out
  go_wp2_with fail
  go_quiet (fail)
  rw [hw1, hw2]
  clear hw1 hw2 hdl
  go_wp2_with fail
  refine (HZ.out _).mono ?_
  rintro e2 w2 ⟨rfl, rfl⟩
  go_wp2_with fail
  refine (HUN.out _).mono ?_
  rintro e3 w3 ⟨a3, c3, rfl, hr3, hb3⟩
  have h3 := below_then (below_drewN hb nq) hb3
  have hr3' := hr3
  have HR3 := Lib.hid (show NumRow w.heap.size pk (.slice a3 many c3) w3 from by
    refine ⟨hr3'.1, ?_⟩
    rcases hr3'.2 with hn | ⟨g, cap, cur, e1, e2, e3⟩
    · exact Or.inl hn
    · exact Or.inr ⟨g, cap, cur, e1, by have := hb.size; have : (w1.drewN nq).heap.size = w1.heap.size := by simp
                                        omega, e3⟩)
  clear hr3 hr3'
  go_wp2_with fail
  refine (HME.out w.heap.size a3 c3 w3 h3.size _ HD2.out HD3.out HR3.out).mono ?_
  rintro e4 w4 ⟨rfl, hr4, hb4⟩
  have HR4 := Lib.hid hr4
  clear hr4
  go_wp2_with fail
  go_ret3
  rw [HR.out]
  exact ⟨a3, many, c3, rfl, HMEL.out.symm, HR4.out, h3.trans hb4⟩
end Go.Proofs.YtmiboibadccceaaGreat
/- The walk of patch.Read. -/
namespace Go.Proofs.YtmiboibadccceaaGreat
open Go.RowKit
set_option linter.unusedVariables false

theorem grown_setC (W : World) (g k : Nat) (v : Value) : W.grownBy (W.setCell ⟨g, k, none⟩ v) (some g) :=
  ⟨rfl, rfl, rfl, by simp [World.setCell], fun j hj hne => by
    have hne' : ¬ g = j := fun e => hne (by rw [e])
    simp [World.setCell, Array.getElem?_modify, hne']⟩

theorem head_facts (s : List UInt8) (many : Nat) : (P.head s many).1 < 18446744073709551616 ∧ (P.head s many).2.2.1.length ≤ many := by
  unfold P.head
  split
  · simp
  · rename_i h
    obtain ⟨n, k, hr⟩ : ∃ n k, V.rd s = (n, k, 0) := ⟨(V.rd s).1, (V.rd s).2.1, by rw [← Classical.not_not.1 h]⟩
    obtain ⟨_, _, _, k4, _, _⟩ := V.rd_ok _ _ _ hr
    rw [hr]
    simp only
    split
    · simp
    · split
      · simp
      · split
        · simp
        · split
          · simp
          · exact ⟨k4, by simp only [B.dg_length]; exact Nat.le_refl _⟩
theorem pparse_facts (s : List UInt8) (many : Nat) : (pparseR s many).1 < 18446744073709551616 ∧ (pparseR s many).2.1.length ≤ many := by
  obtain ⟨h1, h2⟩ := head_facts s many
  unfold pparseR
  split
  · simp
  · exact ⟨h1, by simp only [P.mend_length]; exact h2⟩
theorem plc_any (p : Nat → Bool) (l : List Nat) : ∀ k, (P.plc p k l).length = 0 ↔ l.any p = false := by
  induction l with
  | nil => intro k; simp [P.plc]
  | cons x t ih =>
    intro k
    simp only [P.plc, List.any_cons]
    by_cases h : p x = true
    · simp [h]
    · have h' : p x = false := by simpa using h
      rw [if_neg h, ih (k + 1), h', Bool.false_or]

theorem add_step (xs : List Nat) (b j : Nat) (hj : j < xs.length) :
    ((xs.take j).map (fun n => n + b) ++ xs.drop j).set j (xs.getD j 0 + b) = (xs.take (j + 1)).map (fun n => n + b) ++ xs.drop (j + 1) := by
  have hl : ((xs.take j).map fun n => n + b).length = j := by simp; omega
  have e : xs.take (j + 1) = xs.take j ++ [xs.getD j 0] := by
    rw [List.take_succ_eq_append_getElem hj]; simp [List.getD, List.getElem?_eq_getElem hj]
  rw [List.set_append_right _ _ (by omega), hl, Nat.sub_self, List.drop_eq_getElem_cons hj, List.set_cons_zero, e, List.map_append, List.append_assoc]
  rfl
theorem add_at (xs : List Nat) (b j : Nat) (hj : j < xs.length) : ((xs.take j).map (fun n => n + b) ++ xs.drop j).getD j 0 = xs.getD j 0 := by
  have hl : ((xs.take j).map fun n => n + b).length = j := by simp; omega
  rw [List.getD_eq_getElem?_getD, List.getElem?_append_right (by omega), hl, Nat.sub_self, List.drop_eq_getElem_cons hj]
  simp [List.getD, List.getElem?_eq_getElem hj]
theorem add_len (xs : List Nat) (b j : Nat) (hj : j ≤ xs.length) : ((xs.take j).map (fun n => n + b) ++ xs.drop j).length = xs.length := by simp; omega

set_option maxHeartbeats 2000000 in
set_option maxRecDepth 100000 in
theorem pread_in (s : ByteArray) (many : Nat) (w : World) (hs : s.size ≤ maxLen) (hm : many ≤ 64) :
    Calls Tryz.prog 102 #[.string s, .int .i64 many] w (AllPost (P.readN s.data.toList many) w) := by
  have hmf : ∀ (fn : Fn) (first cap : Array Value) (w : World), (Instr.makeFunc fn first cap).run Tryz.prog w = .ok (.func fn first cap) w := fun _ _ _ _ => rfl
  have HP := Lib.hid (fun W => pparse_any s many W hs hm)
  obtain ⟨f1, f2⟩ := pparse_facts s.data.toList many
  rw [pread_eq]
  generalize pparseR s.data.toList many = p at *
  obtain ⟨b, xs, er⟩ := p
  simp only at f1 f2 ⊢
  have g1 : decide ((many : Int) < 0) = false := decide_eq_false (by omega)
  have g2 : decide ((64 : Int) < (many : Int)) = false := decide_eq_false (by omega)
  by_cases he : er ≠ 0
  · rw [if_pos he]
    have g3 : ((er : Int) != 0) = true := by rw [bne_iff_ne]; omega
    go_enter Tryz.func102, Tryz.ntmps102
    go_wp2_with fail
    refine (HP.out _).mono ?_
    rintro e1 w1 ⟨A, N, c, rfl, hN, hr, hb⟩
    go_wp2_with fail
    go_ret2
    exact ⟨none, 0, rfl, Nums.nil _ _ _, hb.alloc hb.size _⟩
  obtain rfl : er = 0 := by omega
  rw [if_neg he]
  have hpl := plc_any (over b) xs 0
  have HPR := Lib.hid (fun C W hB A c' h => places_r C b W hB f1 A c' xs (by omega) h)
  have HST := Lib.hid (fun j h => add_step xs b j h)
  have HAT := Lib.hid (fun j h => add_at xs b j h)
  have HLN := Lib.hid (fun j h => add_len xs b j h)
  have HOV := Lib.hid (fun j (hj : j < xs.length) (ha : xs.any (over b) = false) => show xs.getD j 0 + b < 18446744073709551616 by
    have := List.any_eq_false.1 ha _ (getD_mem xs j hj)
    unfold over at this
    rw [decide_eq_true_iff] at this
    omega)
  have hfin : P.fin b (xs, 0) = if xs.any (over b) = true then ([], 8) else (xs.map fun n => n + b, 0) := rfl
  rw [hfin]
  have HDR : xs.drop xs.length = [] := List.drop_length
  have HEND := Lib.hid (show (xs.take xs.length).map (fun n => n + b) ++ xs.drop xs.length = xs.map fun n => n + b by rw [List.take_length, HDR, List.append_nil])
  have H0 := Lib.hid (show (xs.take 0).map (fun n => n + b) ++ xs.drop 0 = xs by simp)
  have HML := Lib.hid (show (xs.map fun n => n + b).length = xs.length by simp)
  clear HDR hfin he
  by_cases ha : xs.any (over b) = true
  · rw [if_pos ha]
    have hpn : (P.plc (over b) 0 xs).length ≠ 0 := fun h => by rw [hpl] at h; rw [h] at ha; simp at ha
    generalize P.plc (over b) 0 xs = ps at *
    have g3 : 0 < ps.length := by omega
    clear hpl ha hpn
    go_enter Tryz.func102, Tryz.ntmps102
    go_wp2_with fail
    refine (HP.out _).mono ?_
    rintro e1 w1 ⟨A, N, c, rfl, hN, hr, hb⟩
    subst hN
    go_wp2_with fail
    have hb2 : Below w1.heap.size w1 (w1.alloc (.cells #[.int .u64 (b : Int)] 46)) := (Below.refl _ _).alloc (Nat.le_refl _) _
    obtain ⟨a', c', hev, hnum⟩ := numRow_nums hr
    obtain ⟨rfl, -, rfl⟩ : A = a' ∧ xs.length = xs.length ∧ c = c' := by injection hev with h1 h2 h3; exact ⟨h1, h2, h3⟩
    refine (HPR.out w1.heap.size _ (heap_alloc_new w1 _) A c (hnum.next hb2)).mono ?_
    rintro e2 w2 ⟨a2, c2, rfl, _, hb3⟩
    have h3 := below_then hb (below_then hb2 hb3)
    clear hev
    have g4 : decide ((0 : Int) < (ps.length : Int)) = true := decide_eq_true (by omega)
    go_wp2_with fail
    go_ret2
    exact ⟨none, 0, rfl, Nums.nil _ _ _, h3⟩
  rw [if_neg ha]
  have ha' : xs.any (over b) = false := by simpa using ha
  have hpn := hpl.2 ha'
  have HPN := Lib.hid hpn
  have HOV2 := Lib.hid (fun j h => HOV.out j h ha')
  generalize P.plc (over b) 0 xs = ps at *
  clear hpl ha ha' HOV hpn
  go_enter Tryz.func102, Tryz.ntmps102
  go_wp2_with fail
  refine (HP.out _).mono ?_
  rintro e1 w1 ⟨A, N, c, rfl, hN, hr, hb⟩
  subst hN
  have hb2 : Below w1.heap.size w1 (w1.alloc (.cells #[.int .u64 (b : Int)] 46)) := (Below.refl _ _).alloc (Nat.le_refl _) _
  obtain ⟨a', c', hev, hnum⟩ := numRow_nums hr
  obtain ⟨rfl, -, rfl⟩ : A = a' ∧ xs.length = xs.length ∧ c = c' := by injection hev with h1 h2 h3; exact ⟨h1, h2, h3⟩
  clear hev
  go_wp2_with fail
  refine (HPR.out w1.heap.size _ (heap_alloc_new w1 _) A c (hnum.next hb2)).mono ?_
  rintro e2 w2 ⟨a2, c2, rfl, _, hb3⟩
  have h23 := below_then hb2 hb3
  have h3 := below_then hb h23
  rw [HPN.out]
  have hr2 := hr.below h23
  have hbox : Boxed w2 w1.heap.size 46 (.int .u64 b) := (hb3.block w1.heap.size (by simp)).trans (heap_alloc_new w1 _)
  have HR1 := Lib.hid hr
  obtain ⟨C, hC⟩ : ∃ C, C = w1.heap.size := ⟨_, rfl⟩
  have HC := Lib.hid hC
  rw [← hC] at hbox ⊢
  have hCw : w.heap.size ≤ C := by have := hb.size; omega
  clear hr hnum hC
  go_wp2_with fail
  go_loopw [10, 33] (fun _ i wr => ∃ j : Nat, j ≤ xs.length ∧ i = .int .i64 j ∧ NumRow w.heap.size ((xs.take j).map (fun n => n + b) ++ xs.drop j) (.slice A xs.length c) wr ∧ Boxed wr C 46 (.int .u64 b) ∧ Below w.heap.size w wr) (fun _ i _ => xs.length - (intOf i).toNat)
  case atStart => exact ⟨0, by omega, rfl, by rw [H0.out]; exact hr2, hbox, h3⟩
  case round =>
    obtain ⟨j, hj, rfl, hnr, hbx, hbw⟩ := hrel
    by_cases hlt : j < xs.length
    · obtain ⟨g, rfl, hcl, hgw, hgs⟩ := HR1.out.form (fun e => by rw [e] at hlt; simp at hlt)
      have hln := HLN.out j hj
      have cj := hnr.cell j (by omega)
      rw [HAT.out j hlt] at cj
      have fj := hnr.free j
      have hov := HOV2.out j hlt
      have HS := Lib.hid (HST.out j hlt)
      have hgC : g ≠ C := by have := HC.out; omega
      have cb := hbx.cell
      generalize xs.getD j 0 = x at *
      generalize (xs.take j).map (fun n => n + b) ++ xs.drop j = acc at *
      have hwr : IntKind.u64.wrap ((x : Int) + (b : Int)) = ((x + b : Nat) : Int) := by rw [IntKind.wrap_u64]; omega
      have hw2 : (x : Int) + (b : Int) = ((x + b : Nat) : Int) := by omega
      generalize x + b = y at *
      have hjI : (j : Int) < (xs.length : Int) := by omega
      have HNR2 := Lib.hid (hnr.drew_.put j y)
      have HBX2 := Lib.hid (show Boxed (wr.drew.setCell ⟨g, j, none⟩ (.int .u64 (y : Int))) C 46 (.int .u64 b) from ((grown_setC wr.drew g j (.int .u64 (y : Int))).block C hbx.lt (fun e => hgC (by injection e with e; exact e.symm))).trans hbx)
      have HBW2 := Lib.hid (hbw.drew.setCell (p := ⟨g, j, none⟩) hgw (.int .u64 (y : Int)))
      clear hnr hcl hln hbx hgC
      go_wp2_with fail
      go_region
      all_goals
        go_wp2_with fail
        exact ⟨⟨j + 1, by omega, by go_num, by rw [← HS.out]; exact HNR2.out, HBX2.out, HBW2.out⟩, by simp [intOf]; omega⟩
    · obtain rfl : j = xs.length := by omega
      rw [HEND.out] at hnr
      obtain ⟨a', c', hev, hnum⟩ := numRow_nums hnr
      obtain ⟨rfl, rfl⟩ : A = a' ∧ c = c' := by injection hev with h1 h2 h3; exact ⟨h1, h3⟩
      have HNM := Lib.hid hnum
      clear hev hnr hnum
      go_wp2_with fail
      go_ret2
      exact ⟨A, c, by rw [HML.out]; rfl, HNM.out, hbw⟩

theorem pread_any (s : ByteArray) (many : Int) (w : World) (hs : s.size ≤ maxLen) :
    Calls Tryz.prog 102 #[.string s, .int .i64 many] w (AllPost (P.read s.data.toList many) w) := by
  unfold P.read
  by_cases h0 : many < 0
  · rw [if_pos h0]
    have g1 : decide (many < 0) = true := decide_eq_true h0
    go_enter Tryz.func102, Tryz.ntmps102
    go_wp2_with fail
    go_ret2
    exact ⟨none, 0, rfl, Nums.nil _ _ _, Below.refl _ _⟩
  rw [if_neg h0]
  obtain ⟨m, rfl⟩ : ∃ m : Nat, many = m := ⟨many.toNat, by omega⟩
  by_cases h1 : 64 < (m : Int)
  · rw [if_pos h1]
    have g1 : decide ((m : Int) < 0) = false := decide_eq_false h0
    have g2 : decide ((64 : Int) < (m : Int)) = true := decide_eq_true h1
    go_enter Tryz.func102, Tryz.ntmps102
    go_wp2_with fail
    go_ret2
    exact ⟨none, 0, rfl, Nums.nil _ _ _, Below.refl _ _⟩
  rw [if_neg h1, Int.toNat_natCast]
  exact pread_in s m w hs (by omega)
end Go.Proofs.YtmiboibadccceaaGreat
/- The walks of hypostyleref.BaseOf, CostOf. -/
namespace Go.Proofs.YtmiboibadccceaaGreat
open Go.RowKit
set_option linter.unusedVariables false

set_option maxHeartbeats 1000000 in
set_option maxRecDepth 100000 in
theorem rbase_some (b off c : Nat) (l : List Nat) (w : World) (h0 : 0 < l.length) (hl : l.length ≤ 64)
    (hc : ∀ i, i < l.length → w.cell? ⟨b, off + i, none⟩ = some (.int .u64 ((l.getD i 0 : Nat) : Int))) :
    Calls Tryz.prog 91 #[.slice (some ⟨b, off, none⟩) l.length c] w fun e w' => e = .returned (.int .u64 (P.base l : Nat)) ∧ w = w' := by
  have HC := Lib.hid hc
  have c0 : w.cell? ⟨b, off, none⟩ = some (.int .u64 ((l.getD 0 0 : Nat) : Int)) := hc 0 h0
  have HB := Lib.hid (show P.base l = P.mn (l.getD 0 0) l by
    cases l with
    | nil => simp at h0
    | cons x t => exact (P.mn_self x t).symm)
  have HTK := Lib.hid (fun k h => P.mn_take (l.getD 0 0) l k h)
  have h1L : ((l.length : Int) == 0) = false := by rw [beq_eq_false_iff_ne]; omega
  generalize l.getD 0 0 = x0 at *
  have h0I : (0 : Int) < (l.length : Int) := by omega
  clear hc
  go_enter Tryz.func91, Tryz.ntmps91
  go_wp2_with fail
  go_loop [3, 4] (fun m i => ∃ k : Nat, k ≤ l.length ∧ i = .int .i64 k ∧ m = .int .u64 ((P.mn x0 (l.take k) : Nat) : Int)) (fun _ i => l.length - (intOf i).toNat)
  case atStart => exact ⟨0, by omega, rfl, rfl⟩
  case round =>
    obtain ⟨k, hk, rfl, rfl⟩ := hrel
    by_cases hlt : k < l.length
    · have ck := HC.out k hlt
      have HT := Lib.hid (HTK.out k hlt)
      generalize l.getD k 0 = x at *
      generalize P.mn x0 (l.take k) = m at *
      by_cases hless : x < m
      · have g1 : decide (x < m) = true := decide_eq_true hless
        have HE := Lib.hid (show min m x = x by omega)
        clear hless
        go_wp2_with fail
        exact ⟨⟨k + 1, by omega, by go_num, by rw [HT.out, HE.out]⟩, by simp [intOf]; omega⟩
      · have g1 : decide (x < m) = false := decide_eq_false hless
        have HE := Lib.hid (show min m x = m by omega)
        clear hless
        go_wp2_with fail
        exact ⟨⟨k + 1, by omega, by go_num, by rw [HT.out, HE.out]⟩, by simp [intOf]; omega⟩
    · obtain rfl : k = l.length := by omega
      rw [List.take_length]
      go_wp2_with fail
      go_ret
      exact ⟨by rw [HB.out]; rfl, rfl⟩

set_option maxHeartbeats 400000 in
theorem rbase_nil (a : Option Addr) (c : Nat) (w : World) :
    Calls Tryz.prog 91 #[.slice a 0 c] w fun e w' => e = .returned (.int .u64 0) ∧ w = w' := by
  go_enter Tryz.func91, Tryz.ntmps91
  go_wp2_with fail
  go_ret
  exact ⟨rfl, rfl⟩

theorem rbase_any (a : Option Addr) (c : Nat) (l : List Nat) (w : World) (Bs : Nat) (hl : l.length ≤ 64) (hu : Nums w Bs a l) :
    Calls Tryz.prog 91 #[.slice a l.length c] w fun e w' => e = .returned (.int .u64 (P.base l : Nat)) ∧ w = w' := by
  by_cases h : l = []
  · subst h; exact rbase_nil a c w
  · obtain ⟨b, off, rfl, hb, hc⟩ := hu h
    exact rbase_some b off c l w (by cases l with
      | nil => exact absurd rfl h
      | cons x t => simp) hl hc
end Go.Proofs.YtmiboibadccceaaGreat
