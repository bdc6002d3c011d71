/- dictBegun returns true. -/
import Derived.Test.YtmiboibadccceaaGreatK7
namespace Go.Proofs.YtmiboibadccceaaGreat
open Go.RowKit
set_option linter.unusedVariables false

theorem txts_lit (w : World) (l : List (List UInt8)) : Txts (w.alloc (.cells (tv l).toArray 9)) (w.alloc (.cells (tv l).toArray 9)).heap.size (some ⟨w.heap.size, 0, none⟩) l := by
  intro _
  refine ⟨w.heap.size, 0, rfl, by simp, fun i hi => ?_⟩
  rw [Nat.zero_add, World.cell?_alloc_new]
  simp [tv, List.getElem?_eq_getElem hi]
theorem nums_litT (w : World) (l : List Nat) : Nums (w.alloc (.cells (nv l).toArray 46)) (w.alloc (.cells (nv l).toArray 46)).heap.size (some ⟨w.heap.size, 0, none⟩) l := by
  intro _
  refine ⟨w.heap.size, 0, rfl, by simp, fun i hi => ?_⟩
  rw [Nat.zero_add, World.cell?_alloc_new]
  simp [nv, List.getElem?_eq_getElem hi]
theorem bk_eq (l b : List (List UInt8)) (hb : T.Up b) (hm : ∀ x, x ∈ b ↔ x ∈ l) : T.bk l = b := by
  have hp : (T.bk l).Perm b := (List.perm_ext_iff_of_nodup (T.up_nodup (T.bk_up l)) (T.up_nodup hb)).2 fun x => by rw [T.bk_mem, hm]
  exact List.Perm.eq_of_pairwise (le := fun a b => a < b) (fun a b _ _ h1 h2 => absurd (T.lt_tr h1 h2) (T.lt_irr _)) (T.bk_up l) hb hp

abbrev xRook : List UInt8 := [114, 111, 111, 107]
abbrev xWren : List UInt8 := [119, 114, 101, 110]
abbrev xRooks : List UInt8 := [114, 111, 111, 107, 115]
abbrev tl4 : List (List UInt8) := [xRook, xWren, xRook, xRooks]
abbrev tb3 : List (List UInt8) := [xRook, xRooks, xWren]
theorem of_tl4 : ofR tl4 = (tb3, [0, 2, 0, 1], 0) := by
  have hb : T.bk tl4 = tb3 := bk_eq _ _ ((rise_up _).1 (by decide +kernel)) (by
    intro x
    simp only [List.mem_cons, List.not_mem_nil, or_false]
    constructor
    · rintro (h | h | h)
      · exact Or.inl h
      · exact Or.inr (Or.inr (Or.inr h))
      · exact Or.inr (Or.inl h)
    · rintro (h | h | h | h)
      · exact Or.inl h
      · exact Or.inr (Or.inr h)
      · exact Or.inl h
      · exact Or.inr (Or.inl h))
  have hf : fitR tl4 = 0 := by decide +kernel
  unfold ofR
  rw [hf, if_neg (by simp), hb]
  have hc : tl4.map (T.plc tb3) = [0, 2, 0, 1] := by decide +kernel
  rw [hc]

theorem tbo (w : World) : Calls Tryz.prog 32 #[.slice (some ⟨w.heap.size, 0, none⟩) 4 4] (w.alloc (.cells #[.string ⟨#[114, 111, 111, 107]⟩, .string ⟨#[119, 114, 101, 110]⟩, .string ⟨#[114, 111, 111, 107]⟩, .string ⟨#[114, 111, 111, 107, 115]⟩] 9)) fun e w' => ∃ a c a2 c2, e = .returned (.tuple #[.slice a 3 c, .slice a2 4 c2, .int .i64 0]) ∧ Txts w' w'.heap.size a tb3 ∧ Nums w' w'.heap.size a2 [0, 2, 0, 1] ∧ Below w.heap.size w w' := by
  have h := dictOf_any (some ⟨w.heap.size, 0, none⟩) 4 tl4 (w.alloc (.cells (tv tl4).toArray 9)) (txts_lit w tl4)
  rw [of_tl4] at h
  exact h.mono fun e w' ⟨a, c, a2, c2, he, h1, h2, hb⟩ => ⟨a, c, a2, c2, he, h1, h2, ((Below.refl _ _).alloc (Nat.le_refl _) _).trans (hb.mono (by simp))⟩
theorem tbt (a : Option Addr) (c : Nat) (w : World) (h : Txts w w.heap.size a tb3) : Calls Tryz.prog 79 #[.slice a 3 c, .slice (some ⟨w.heap.size, 0, none⟩) 2 2] (w.alloc (.cells #[.int .u64 2, .int .u64 0] 46)) fun e w' => ∃ a c, e = .returned (.tuple #[.slice a 2 c, .int .i64 0]) ∧ Txts w' w'.heap.size a [xWren, xRook] ∧ Below w.heap.size w w' := by
  have hb0 : Below w.heap.size w (w.alloc (.cells (nv [2, 0]).toArray 46)) := (Below.refl _ _).alloc (Nat.le_refl _) _
  have h := dtexts_any a c tb3 (some ⟨w.heap.size, 0, none⟩) 2 [2, 0] (w.alloc (.cells (nv [2, 0]).toArray 46)) (by decide) (h.next hb0) (nums_litT w [2, 0])
  have e : textsR tb3 [2, 0] = ([xWren, xRook], 0) := by decide +kernel
  rw [e] at h
  exact h.mono fun e w' ⟨a, c, he, h1, hb⟩ => ⟨a, c, he, h1, below_then hb0 hb⟩
theorem tbf (a : Option Addr) (c : Nat) (w : World) (h : Txts w w.heap.size a tb3) : Calls Tryz.prog 80 #[.slice a 3 c, .string ⟨#[115]⟩] w fun e w' => e = .returned (.tuple #[.int .i64 2, .bool false, .int .i64 0]) ∧ Below w.heap.size w w' := by
  have h := dfind_any a c tb3 [115] w h
  have e : findR tb3 [115] = (2, false, 0) := by decide +kernel
  rw [e] at h
  exact h
theorem tbs (a : Option Addr) (c : Nat) (w : World) (h : Txts w w.heap.size a tb3) : Calls Tryz.prog 81 #[.slice a 3 c, .string ⟨#[114, 111, 111, 107]⟩, .string ⟨#[114, 111, 111, 107, 121]⟩] w fun e w' => e = .returned (.tuple #[.int .i64 0, .int .i64 2, .int .i64 0]) ∧ Below w.heap.size w w' := by
  have h := dspan_any a c tb3 xRook [114, 111, 111, 107, 121] w h
  have e : spanR tb3 xRook [114, 111, 111, 107, 121] = (0, 2, 0) := by decide +kernel
  rw [e] at h
  exact h
theorem tbm1 (a : Option Addr) (c : Nat) (w : World) (h : Txts w w.heap.size a tb3) :
    Calls Tryz.prog 27 #[.slice a 3 c, .slice (some ⟨w.heap.size, 0, none⟩) 3 3] (w.alloc (.cells #[.string ⟨#[114, 111, 111, 107]⟩, .string ⟨#[114, 111, 111, 107, 115]⟩, .string ⟨#[119, 114, 101, 110]⟩] 9)) fun e w' => e = .returned (.bool true) ∧ Below w.heap.size w w' := by
  have hb : Below w.heap.size w (w.alloc (.cells (tv tb3).toArray 9)) := (Below.refl _ _).alloc (Nat.le_refl _) _
  have h2 := tsame_any a (some ⟨w.heap.size, 0, none⟩) c 3 tb3 tb3 (w.alloc (.cells (tv tb3).toArray 9)) _ (h.next hb) (txts_lit w tb3) (by decide)
  rw [decide_eq_true rfl] at h2
  exact h2.mono fun e w' ⟨he, hb'⟩ => ⟨he, below_then hb hb'⟩
theorem tbm2 (a : Option Addr) (c : Nat) (w : World) (h : Txts w w.heap.size a [xWren, xRook]) :
    Calls Tryz.prog 27 #[.slice a 2 c, .slice (some ⟨w.heap.size, 0, none⟩) 2 2] (w.alloc (.cells #[.string ⟨#[119, 114, 101, 110]⟩, .string ⟨#[114, 111, 111, 107]⟩] 9)) fun e w' => e = .returned (.bool true) ∧ Below w.heap.size w w' := by
  have hb : Below w.heap.size w (w.alloc (.cells (tv [xWren, xRook]).toArray 9)) := (Below.refl _ _).alloc (Nat.le_refl _) _
  have h2 := tsame_any a (some ⟨w.heap.size, 0, none⟩) c 2 [xWren, xRook] [xWren, xRook] (w.alloc (.cells (tv [xWren, xRook]).toArray 9)) _ (h.next hb) (txts_lit w [xWren, xRook]) (by decide)
  rw [decide_eq_true rfl] at h2
  exact h2.mono fun e w' ⟨he, hb'⟩ => ⟨he, below_then hb hb'⟩
theorem tbm3 (a : Option Addr) (c : Nat) (w : World) (h : Nums w w.heap.size a [0, 2, 0, 1]) :
    Calls Tryz.prog 26 #[.slice a 4 c, .slice (some ⟨w.heap.size, 0, none⟩) 4 4] (w.alloc (.cells #[.int .u64 0, .int .u64 2, .int .u64 0, .int .u64 1] 46)) fun e w' => e = .returned (.bool true) ∧ Below w.heap.size w w' := by
  have hb : Below w.heap.size w (w.alloc (.cells (nv [0, 2, 0, 1]).toArray 46)) := (Below.refl _ _).alloc (Nat.le_refl _) _
  have h2 := same_any a (some ⟨w.heap.size, 0, none⟩) c 4 [0, 2, 0, 1] [0, 2, 0, 1] (w.alloc (.cells (nv [0, 2, 0, 1]).toArray 46)) _ (h.next hb) (nums_litT w [0, 2, 0, 1]) (by decide)
  rw [decide_eq_true rfl] at h2
  exact h2.mono fun e w' ⟨he, hb'⟩ => ⟨he, below_then hb hb'⟩
theorem tbc (w : World) : Calls Tryz.prog 82 #[.slice (some ⟨w.heap.size, 0, none⟩) 2 2] (w.alloc (.cells #[.string ⟨#[98]⟩, .string ⟨#[97]⟩] 9)) fun e w' => e = .returned (.int .i64 4) ∧ Below w.heap.size w w' := by
  have h := dcheck_any (some ⟨w.heap.size, 0, none⟩) 2 [[98], [97]] (w.alloc (.cells (tv [[98], [97]]).toArray 9)) (txts_lit w [[98], [97]])
  have e : bookR [[98], [97]] = 4 := by decide +kernel
  rw [e] at h
  exact h.mono fun e w' ⟨he, hb⟩ => ⟨he, ((Below.refl _ _).alloc (Nat.le_refl _) _).trans (hb.mono (by simp))⟩

set_option maxHeartbeats 1000000 in
set_option maxRecDepth 100000 in
theorem tbegun_any (w : World) : Calls Tryz.prog 33 #[] w (BoolPost true w) := by
  go_enter Tryz.func33, Tryz.ntmps33
  go_wp2_with fail
  refine (texts_any _ _).mono ?_
  rintro e w0 ⟨rfl, rfl⟩
  go_wp2_with fail
  refine (tbo w).mono ?_
  rintro e w1 ⟨a1, c1, a2, c2, rfl, t1, n1, hb1⟩
  go_wp2_with fail
  refine (tbt _ _ _ t1).mono ?_
  rintro e w2 ⟨a3, c3, rfl, t2, hb2⟩
  have h2 := below_then hb1 hb2
  go_wp2_with fail
  refine (tbf _ _ _ (t1.next hb2)).mono ?_
  rintro e w3 ⟨rfl, hb3⟩
  have h3 := below_then h2 hb3
  go_wp2_with fail
  refine (tbs _ _ _ (t1.next (below_then hb2 hb3))).mono ?_
  rintro e w4 ⟨rfl, hb4⟩
  have h4 := below_then h3 hb4
  go_wp2_with fail
  refine (texts_any _ _).mono ?_
  rintro e w5 ⟨rfl, rfl⟩
  go_wp2_with fail
  refine (tbm1 _ _ _ (t1.next (below_then (below_then hb2 hb3) hb4))).mono ?_
  rintro e w6 ⟨rfl, hb6⟩
  have h6 := below_then h4 hb6
  go_wp2_with fail
  refine (tbm3 _ _ _ (n1.next (below_then (below_then (below_then hb2 hb3) hb4) hb6))).mono ?_
  rintro e w7 ⟨rfl, hb7⟩
  have h7 := below_then h6 hb7
  go_wp2_with fail
  refine (texts_any _ _).mono ?_
  rintro e w8 ⟨rfl, rfl⟩
  go_wp2_with fail
  refine (tbm2 _ _ _ (t2.next (below_then (below_then (below_then hb3 hb4) hb6) hb7))).mono ?_
  rintro e w9 ⟨rfl, hb9⟩
  have h9 := below_then h7 hb9
  go_wp2_with fail
  refine (texts_any _ _).mono ?_
  rintro e w10 ⟨rfl, rfl⟩
  go_wp2_with fail
  refine (tbc _).mono ?_
  rintro e w11 ⟨rfl, hb11⟩
  go_wp2_with fail
  go_ret
  exact ⟨rfl, below_then h9 hb11⟩
end Go.Proofs.YtmiboibadccceaaGreat
