/- The walk of shred.Shred. -/
import Derived.Test.YtjfkoledbegpfaaShT
import Derived.Test.YtjfkoledbegpfaaShW3
namespace Go.Proofs.Ytjfkoledbegpfaa
open Go.RowKit
open Sh (Lv lsum)
set_option linter.unusedVariables false

namespace Sh
theorem flat_unique : ∀ (f g : F) (x y : List Fd), len f = len g → flat f ++ x = flat g ++ y → f = g ∧ x = y
  | .nil, .nil, x, y, _, h => ⟨rfl, by simpa [flat] using h⟩
  | .nil, .cons _ _ _, _, _, h, _ => by simp [len] at h; omega
  | .cons _ _ _, .nil, _, _, h, _ => by simp [len] at h
  | .cons r k s, .cons r' k' s', x, y, hl, h => by
    simp only [flat, List.cons_append, List.cons.injEq, Prod.mk.injEq, List.append_assoc] at h
    obtain ⟨⟨h1, h2⟩, h3⟩ := h
    have e1 : r = r' := by omega
    have e2 : len k = len k' := by omega
    obtain ⟨e3, h4⟩ := flat_unique k k' _ _ e2 h3
    obtain ⟨e4, e5⟩ := flat_unique s s' x y (by simp only [len] at hl; omega) h4
    exact ⟨by rw [e1, e3, e4], e5⟩
/-- what is below the one field that a form is -/
noncomputable def formK (l : List Fd) : F := open Classical in if h : ∃ k, flat (.cons 0 k .nil) = l then Classical.choose h else .nil
theorem formK_is {l : List Fd} {k : F} (h : flat (.cons 0 k .nil) = l) : formK l = k := by
  unfold formK
  have hx : ∃ k, flat (.cons 0 k .nil) = l := ⟨k, h⟩
  rw [dif_pos hx]
  have h2 := Classical.choose_spec hx
  have h3 : flat (.cons 0 (Classical.choose hx) .nil) ++ [] = flat (.cons 0 k .nil) ++ [] := by rw [h2, h]
  have h4 := (flat_unique (.cons 0 (Classical.choose hx) .nil) (.cons 0 k .nil) [] [] rfl h3).1
  injection h4
/-- columns of records -/
noncomputable def shR (l : List Fd) (rs : List (List Nat)) : Except Nat (List (List Lv)) :=
  if check l ≠ 0 then .error (check l) else if 8 < rs.length then .error 2 else recsS (formK l) rs (List.replicate (lv1 (formK l)) [])
end Sh
def ShredPost (w : World) (R : Except Nat (List (List Lv))) (e : Ending) (w' : World) : Prop :=
  Below w.heap.size w w' ∧ match R with
  | .error n => e = .returned (.tuple #[.slice none 0 0, .int .i64 (n : Int)])
  | .ok cols => ∃ B S C N a cap vs, w.heap.size ≤ B ∧ e = .returned (.tuple #[.slice (some ⟨C, 0, none⟩) N N, .int .i64 0]) ∧ Shd w' B S C N a [] cap cols vs 0

theorem recS_err {k : Sh.F} {r : List Nat} {cols : List (List Lv)} {n : Nat} (h : Sh.recS k r cols = .error n) : n = 1 ∨ n = 2 := by
  unfold Sh.recS at h
  split at h
  · cases h; exact Or.inr rfl
  · cases hx : Sh.al1 Sh.sdW 0 k 0 0 0 0 (r, cols) with
    | none => rw [hx] at h; cases h; exact Or.inl rfl
    | some st =>
      rw [hx] at h
      obtain ⟨l, c⟩ := st
      cases l with
      | nil => cases h
      | cons x t => cases h; exact Or.inl rfl
theorem recsS_err {k : Sh.F} {n : Nat} : ∀ {rs : List (List Nat)} {cols : List (List Lv)}, Sh.recsS k rs cols = .error n → n = 1 ∨ n = 2
  | [], cols, h => by cases h
  | r :: t, cols, h => by
    unfold Sh.recsS at h
    cases hx : Sh.recS k r cols with
    | error e => rw [hx] at h; cases h; exact recS_err hx
    | ok c => rw [hx] at h; exact recsS_err h
theorem info_lvs : (Try.prog.info? 40).map (fun i => (i.zero, i.size, i.bytes)) = some (some (.slice none 0 0), 1, 24) := by kernel_rfl
theorem made_lvs {w : World} {B g n : Nat} (h : w.ownsRow B 40 1 (.slice (some ⟨g, 0, none⟩) n n) n (madeCells (Value.slice none 0 0).cells (n * 1)).toList) : Cel w g (List.replicate n (Value.slice none 0 0)).toArray 40 := by
  rcases h.2 with ⟨e, -⟩ | ⟨g', cap, cur, e1, e2, e3, e4, e5, e6, e7⟩
  · cases e
  · have e8 : g = g' ∧ n = cap := by
      injection e1 with q1 q2 q3
      have := Option.some.inj q1
      exact ⟨congrArg Addr.block this, q3⟩
    obtain ⟨rfl, rfl⟩ := e8
    unfold Cel
    rw [e3]
    congr 2
    rw [List.take_of_length_le (by rw [Array.length_toList, e6]; exact Nat.le_refl _)] at e7
    have : cur.toList = List.replicate n (Value.slice none 0 0) := by
      rw [e7]
      apply List.ext_getElem?
      intro i
      by_cases hi : i < n
      · simp [madeCells, hi, Value.cells, Nat.mod_one]
      · simp [madeCells, hi]
    rw [← this]
theorem lsum_replicate (n : Nat) : lsum (List.replicate n []) = 0 := by
  induction n with
  | zero => rfl
  | succ n ih => rw [List.replicate_succ]; simp only [lsum, List.map_cons, List.sum_cons] at ih ⊢; rw [ih]; rfl

set_option maxHeartbeats 2000000 in
set_option maxRecDepth 100000 in
theorem shred_any (a : Option Addr) (cap : Nat) (l : List Sh.Fd) (ra : Option Addr) (rcap : Nat) (rs : List (List Nat)) (w : World) (hcap : l.length ≤ cap) (hcm : cap ≤ maxLen) (hu : Fds w w.heap.size a l) (hrc : rs.length ≤ rcap) (hrm : rcap ≤ maxLen) (hr : NRows w w.heap.size ra rs) :
    Calls Try.prog 12 #[.slice a l.length cap, .slice ra rs.length rcap] w (ShredPost w (Sh.shR l rs)) := by
  obtain ⟨R, hR⟩ : ∃ R, Sh.shR l rs = R := ⟨_, rfl⟩
  rw [hR]
  have HR := Lib.hid hR
  have HU := Lib.hid hu
  have HRR := Lib.hid hr
  have HRC := Lib.hid (And.intro hrc hrm)
  unfold maxLen at hrm
  obtain ⟨m, hm⟩ : ∃ m, m = rs.length := ⟨_, rfl⟩
  rw [← hm] at hrc ⊢
  have HM := Lib.hid hm
  clear hR hu hr hm
  go_enter Try.func12, Try.ntmps12
  go_wp2_with fail
  have X1 := cel_new w #[.slice ra m rcap] 23
  have B1 := (Below.refl w.heap.size w).alloc (Nat.le_refl _) (.cells #[.slice ra m rcap] 23)
  generalize w.alloc (.cells #[.slice ra m rcap] 23) = w1 at *
  refine (tree_any a cap l w1 hcap hcm ((HU.out.below B1).mono B1.size)).mono ?_
  rintro e w2 ⟨hb, ⟨h0, rfl⟩ | ⟨h0, k, kv, hk, hko, hfl, h12, rfl, hkv⟩⟩
  · have HB := Lib.hid (B1.trans (hb.mono B1.size))
    have HRE := Lib.hid (show R = .error (Sh.check l) by rw [← HR.out]; unfold Sh.shR; rw [if_pos h0])
    obtain ⟨ck, hck⟩ : ∃ ck, ck = Sh.check l := ⟨_, rfl⟩
    unfold node0
    rw [← hck] at h0 HRE ⊢
    have hckI : ((ck : Int) != 0) = true := by rw [bne_iff_ne]; omega
    clear hck hb B1 X1
    go_wp2_with fail
    obtain rfl := HRE.out
    exact bodyPost_ret (v := .tuple #[.slice none 0 0, .int .i64 (ck : Int)]) (by simp [results, Try.results12, go_sem]) rfl ⟨HB.out.alloc HB.out.size _, rfl⟩
  · obtain ⟨b', capk, M, hkv2⟩ : ∃ b' capk M, kv = .slice (some ⟨b', 0, none⟩) M capk := by
      rcases hkv with ⟨h1, -⟩ | ⟨-, b', capk, h1, -⟩
      · exact absurd h1 hk
      · exact ⟨_, _, _, h1⟩
    subst hkv2
    obtain ⟨T, hT⟩ : ∃ T, T = lv1 k := ⟨_, rfl⟩
    have hT12 : T ≤ 12 := by
      have e1 := Sh.leaves_le (.cons 0 k .nil)
      rw [← Sh.flat_length, hfl, leaves_cons] at e1
      omega
    have hTk : T = lv1 k := hT
    have HTk := Lib.hid hTk
    have HKV := Lib.hid hkv
    have HB2 := Lib.hid (B1.trans (hb.mono B1.size))
    have hX2 := X1.next hb
    have hs1 : w1.heap.size ≤ w2.heap.size := hb.size
    have HX2 := Lib.hid hX2
    have HC0 := Lib.hid h0
    have HFL := Lib.hid hfl
    simp only [nag, nx, dn, rn, Nat.zero_add, if_true]
    rw [← hT]
    have f2 : w2.cell? ⟨w.heap.size, 0, none⟩ = some (.slice ra m rcap) := hX2.c 0
    have hl2 := hX2.lt
    clear hT hTk hb B1 X1 hkv hfl hX2 h0
    by_cases hm8 : 8 < m
    · have HRE := Lib.hid (show R = .error 2 by rw [← HR.out]; unfold Sh.shR; rw [if_neg (by rw [HC0.out]; simp), if_pos (by rw [← HM.out]; exact hm8)])
      have hmI : (8 : Int) < (m : Int) := by omega
      go_wp2_with fail
      obtain rfl := HRE.out
      exact bodyPost_ret (v := .tuple #[.slice none 0 0, .int .i64 2]) (by simp [results, Try.results12, go_sem]) rfl ⟨HB2.out.alloc HB2.out.size _, rfl⟩
    · have HRE := Lib.hid (show R = Sh.recsS k rs (List.replicate T []) by rw [← HR.out]; unfold Sh.shR; rw [if_neg (by rw [HC0.out]; simp), if_neg (by rw [← HM.out]; exact hm8), Sh.formK_is HFL.out, ← HTk.out])
      have hmI : ¬ (8 : Int) < (m : Int) := by omega
      obtain ⟨i0, hi, hz0, hz1, hz2⟩ := info_parts info_lvs
      have hmf : ∀ (fn : Fn) (first cap : Array Value) (w : World), (Instr.makeFunc fn first cap).run Try.prog w = .ok (.func fn first cap) w := fun _ _ _ _ => rfl
      go_wp2_with (at_make; refine wpList_make_full _ rfl (.tmp 21) (.tmp 21) 27 rfl (w2.heap.size + 1) 40 i0 (.slice none 0 0) 1 Try.underlying27 hi hz0 hz1 .i64 .i64 _ _ T rfl rfl rfl rfl (by rw [hz2]; omega) (by unfold maxLen; omega) (by simp) ?_; intro w4 hown hgrow)
      have e3 : (w2.alloc (.cells #[.int .i64 0, .int .i64 0, .int .i64 0, .int .i64 0, .int .i64 (T : Nat), .slice (some ⟨b', 0, none⟩) M capk] 50)).heap.size = w2.heap.size + 1 := by simp
      have CT := cel_new w2 #[.int .i64 0, .int .i64 0, .int .i64 0, .int .i64 0, .int .i64 (T : Nat), .slice (some ⟨b', 0, none⟩) M capk] 50
      have hB3 : Below w2.heap.size w2 (w2.alloc (.cells #[.int .i64 0, .int .i64 0, .int .i64 0, .int .i64 0, .int .i64 (T : Nat), .slice (some ⟨b', 0, none⟩) M capk] 50)) := (Below.refl _ _).alloc (Nat.le_refl _) _
      have hB4 : Below (w2.alloc (.cells #[.int .i64 0, .int .i64 0, .int .i64 0, .int .i64 0, .int .i64 (T : Nat), .slice (some ⟨b', 0, none⟩) M capk] 50)).heap.size (w2.alloc (.cells #[.int .i64 0, .int .i64 0, .int .i64 0, .int .i64 0, .int .i64 (T : Nat), .slice (some ⟨b', 0, none⟩) M capk] 50)) w4 := (Below.refl _ _).grown hgrow (Nat.le_refl _) (fun k hk => by cases hk)
      have CC : Cel w4 (w2.heap.size + 1) (List.replicate T (Value.slice none 0 0)).toArray 40 := by
        have h := hown
        rw [e3] at h
        exact made_lvs h
      have CT4 := CT.next hB4
      rw [e3] at hB4
      have hs4 := CC.lt
      have CS := cel_new w4 #[.slice none 0 0, .slice (some ⟨w2.heap.size + 1, 0, none⟩) T T] 54
      have hB5 : Below w4.heap.size w4 (w4.alloc (.cells #[.slice none 0 0, .slice (some ⟨w2.heap.size + 1, 0, none⟩) T T] 54)) := (Below.refl _ _).alloc (Nat.le_refl _) _
      have hs5 : (w4.alloc (.cells #[.slice none 0 0, .slice (some ⟨w2.heap.size + 1, 0, none⟩) T T] 54)).heap.size = w4.heap.size + 1 := by simp
      have CC5 := CC.next hB5
      have CT5 := CT4.next hB5
      have B25 : Below w2.heap.size w2 (w4.alloc (.cells #[.slice none 0 0, .slice (some ⟨w2.heap.size + 1, 0, none⟩) T T] 54)) := (hB3.trans (hB4.mono (by omega))).trans (hB5.mono (by omega))
      generalize w4.alloc (.cells #[.slice none 0 0, .slice (some ⟨w2.heap.size + 1, 0, none⟩) T T] 54) = w5 at *
      have hrep : ∀ i, (List.replicate T (Value.slice none 0 0)).getD i undef = .slice none 0 0 ∨ (List.replicate T (Value.slice none 0 0)).getD i undef = undef := by
        intro i
        by_cases hi : i < T
        · left; simp [List.getD, hi]
        · right; simp [List.getD, hi]
      have hnob : ∀ i b, ((List.replicate T (Value.slice none 0 0)).getD i undef).ownBlock ≠ some b := by
        intro i b h
        rcases hrep i with e | e <;> rw [e] at h <;> cases h
      have hout : ∀ i, Out w4.heap.size (w2.heap.size + 1) (List.replicate T (Value.slice none 0 0)) i → w2.heap.size + 1 ≤ i := by
        rintro i (rfl | rfl | ⟨j, hj⟩)
        · omega
        · omega
        · exact absurd hj (hnob j i)
      have D5 : Shd w5 (w2.heap.size + 1) w4.heap.size (w2.heap.size + 1) T none [] 0 (List.replicate T []) (List.replicate T (Value.slice none 0 0)) (rs.length * 768) := by
        refine ⟨CS, CC5, List.length_replicate, List.length_replicate, Nums.nil _ _ _, (fun n h => (by cases h)), fun i hi => ?_, fun i j b _ _ _ h => absurd h (hnob i b), fun i _ => ⟨hnob i _, hnob i _⟩, ⟨by omega, Nat.le_refl _, by omega⟩, ⟨Nat.le_refl _, Nat.zero_le _⟩, hT12, ?_⟩
        · have e1 : (List.replicate T (Value.slice none 0 0)).getD i undef = .slice none 0 0 := by simp [List.getD, hi]
          have e2 : (List.replicate T ([] : List Lv)).getD i [] = [] := by simp [List.getD, hi]
          rw [e1, e2]; exact ⟨rfl, Or.inl ⟨rfl, rfl⟩⟩
        · rw [lsum_replicate]; have := HM.out; simp only [List.length_nil]; omega
      have K5 : KidsOf w5 (fun i => i < w2.heap.size + 1) k (.slice (some ⟨b', 0, none⟩) M capk) 0 0 0 := (HKV.out.wider (S' := fun i => i < w2.heap.size) (fun i h => h.2)).keep (fun i (hi : i < w2.heap.size) => B25.block i hi) |>.wider (fun i h => by omega)
      have RB5 : Cel w5 w.heap.size #[.slice ra rs.length rcap] 23 := by rw [← HM.out]; exact HX2.out.next B25
      have TB5 : Cel w5 w2.heap.size (nx 0 0 0 0 k (.slice (some ⟨b', 0, none⟩) M capk)).toArray 50 := by
        have e1 : (nx 0 0 0 0 k (.slice (some ⟨b', 0, none⟩) M capk)).toArray = #[.int .i64 0, .int .i64 0, .int .i64 0, .int .i64 0, .int .i64 (T : Nat), .slice (some ⟨b', 0, none⟩) M capk] := by
          simp only [nx, dn, rn, Nat.zero_add, if_true]; rw [← HTk.out]; rfl
        rw [e1]; exact CT5
      have NR5 := (HRR.out.below (HB2.out.trans (B25.mono HB2.out.size)))
      have NR6 : NRows w5 (w2.heap.size + 1) ra rs := by
        intro hne
        obtain ⟨b, off, e, hlt, hc⟩ := NR5 hne
        refine ⟨b, off, e, by have := HB2.out.size; omega, fun i hi => ?_⟩
        obtain ⟨xa, xc, h1, h2, h3⟩ := hc i hi
        exact ⟨xa, xc, h1, h2.mono (by have := HB2.out.size; omega), h3⟩
      have HTR := Lib.hid (tried_recs w5 (w2.heap.size + 1) w4.heap.size (w2.heap.size + 1) T none 0 (List.replicate T []) (List.replicate T (Value.slice none 0 0)) rs D5 k (.slice (some ⟨b', 0, none⟩) M capk) K5 hk hko.2.2.1 (by
          have e1 : l.length = Sh.size k + 1 := by rw [← HFL.out, Sh.flat_length]; simp [Sh.size]; omega
          omega) HTk.out.symm w.heap.size w2.heap.size ra rcap RB5 TB5 ⟨fun h => by have := hout _ h; have := HB2.out.size; omega, fun h => by have := hout _ h; omega⟩ NR6 HRC.out)
      refine HTR.out.mono ?_
      rintro e w6 ⟨vs6, hfr6, hm6⟩
      have HBF := Lib.hid (show Below w.heap.size w w6 from (HB2.out.trans (B25.mono HB2.out.size)).trans (hfr6.below (by have := HB2.out.size; omega) (fun i h => by have := hout i h; have := HB2.out.size; omega)))
      have HRE2 := HRE.out
      obtain ⟨Q, hQ⟩ : ∃ Q, Sh.recsS k rs (List.replicate T []) = Q := ⟨_, rfl⟩
      rw [hQ] at HRE2 hm6
      cases Q with
      | error n =>
        have hn12 := recsS_err hQ
        obtain rfl := hm6
        have hnI : ((n : Int) != 0) = true := by rw [bne_iff_ne]; omega
        have HRE3 := Lib.hid HRE2
        clear HRE2 hQ HTR
        go_wp2_with fail
        obtain rfl := HRE3.out
        exact bodyPost_ret (v := .tuple #[.slice none 0 0, .int .i64 (n : Int)]) (by simp [results, Try.results12, go_sem]) rfl ⟨HBF.out, rfl⟩
      | ok cols' =>
        obtain ⟨rfl, a6, cap6, hsd6⟩ := hm6
        have s16 : w6.cell? ⟨w4.heap.size, 1, none⟩ = some (.slice (some ⟨w2.heap.size + 1, 0, none⟩) T T) := hsd6.s.c 1
        have HRE3 := Lib.hid HRE2
        have HSD := Lib.hid hsd6
        clear HRE2 hQ HTR
        go_wp2_with fail
        obtain rfl := HRE3.out
        exact bodyPost_ret (v := .tuple #[.slice (some ⟨w2.heap.size + 1, 0, none⟩) T T, .int .i64 0]) (by simp [results, Try.results12, go_sem]) rfl ⟨HBF.out, w2.heap.size + 1, w4.heap.size, w2.heap.size + 1, T, a6, cap6, vs6, by have := HB2.out.size; omega, rfl, HSD.out⟩
end Go.Proofs.Ytjfkoledbegpfaa
