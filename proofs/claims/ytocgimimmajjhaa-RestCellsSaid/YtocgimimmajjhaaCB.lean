/- The walks of cNum, cells, marks, nullsBegun. -/
import Derived.Test.YtocgimimmajjhaaCW5
import Derived.Test.YtocgimimmajjhaaCW6
import Derived.Test.YtocgimimmajjhaaCSame
import Derived.Test.YtocgimimmajjhaaMSame
namespace Go.Proofs.Ytocgimimmajjhaa
open Go.RowKit
set_option linter.unusedVariables false

theorem ccells_any (v : Value) (w : World) : Calls Try.prog 23 #[v] w (ValPost v w) := by
  go_enter Try.func23, Try.ntmps23
  go_wp2_with fail
  go_ret
  exact ⟨rfl, rfl⟩
theorem cmarks_any (v : Value) (w : World) : Calls Try.prog 24 #[v] w (ValPost v w) := by
  go_enter Try.func24, Try.ntmps24
  go_wp2_with fail
  go_ret
  exact ⟨rfl, rfl⟩
def CellPost (v : Value) (w : World) (e : Ending) (w' : World) : Prop := e = .returned v ∧ Below w.heap.size w w'
set_option maxHeartbeats 1000000 in
set_option maxRecDepth 100000 in
theorem cnum_any (n : Int) (w : World) : Calls Try.prog 21 #[.int .u64 n] w (CellPost (.agg #[.int .i64 1, .int .u64 n, .string ⟨#[]⟩]) w) := by
  have q0 := tri_new w (.int .i64 0) (.int .u64 0) (.string ByteArray.empty)
  have hal : Below w.heap.size w (w.alloc (.cells #[.int .i64 0, .int .u64 0, .string ByteArray.empty] 38)) := (Below.refl _ _).alloc (Nat.le_refl _) _
  go_enter Try.func21, Try.ntmps21
  go_wp2_with fail
  refine bodyPost_ret (v := .agg #[.int .i64 1, .int .u64 n, .string ⟨#[]⟩]) (by simp [results, Try.results21, go_sem]) rfl ⟨rfl, ?_⟩
  exact (Below.refl _ _).alloc (Nat.le_refl _) _

theorem Cls.take {w : World} {B : Nat} {a : Option Addr} {l : List C.Cl} (h : Cls w B a l) (k : Nat) : Cls w B a (l.take k) := by
  intro hl
  obtain ⟨b, off, e, hlt, hc⟩ := h (by intro e; rw [e] at hl; simp at hl)
  refine ⟨b, off, e, hlt, fun i hi => ?_⟩
  have hi' : i < l.length := by simp only [List.length_take] at hi; omega
  have hk : i < k := by simp only [List.length_take] at hi; omega
  have e : (l.take k).getD i C.null = l.getD i C.null := by simp [List.getD, List.getElem?_take_of_lt hk]
  rw [e]; exact hc i hi'

abbrev cL0 : List C.Cl := [⟨1, 5, []⟩, C.null, ⟨1, 7, []⟩]
abbrev cD0 : List C.Cl := [⟨1, 5, []⟩, ⟨1, 7, []⟩]
abbrev cM0 : List Bool := [true, false, true]
theorem cok1 (n : Nat) (h : n < 10) : cOk ⟨1, n, []⟩ := by unfold cOk; simp [maxLen]; omega
theorem okL0 : ∀ x ∈ cL0, cOk x := by
  intro x hx
  simp only [List.mem_cons, List.not_mem_nil, or_false] at hx
  rcases hx with rfl | rfl | rfl
  · exact cok1 5 (by omega)
  · exact cOk_null
  · exact cok1 7 (by omega)
theorem okD0 : ∀ x ∈ cD0, cOk x := fun x hx => okL0 x (by
  simp only [List.mem_cons, List.not_mem_nil, or_false] at hx ⊢
  rcases hx with rfl | rfl
  · exact Or.inl rfl
  · exact Or.inr (Or.inr rfl))
theorem bsplit (a : Option Addr) (w : World) (hu : Cls w w.heap.size a cL0) :
    Calls Try.prog 8 #[.int .i64 1, .slice a 3 3] w (SplitPost (cM0, cD0, 0) w) := by
  have h := nsplit_any 1 a 3 cL0 w (by unfold maxLen; decide) okL0 hu
  have e : splitR 1 cL0 = (cM0, cD0, 0) := by decide +kernel
  rw [e] at h; exact h
theorem bjoin (am ad : Option Addr) (cm cd : Nat) (w : World) (hm : Bools w w.heap.size am cM0) (hq : 2 ≤ cd ∧ cd ≤ maxLen ∧ (ad = none → cd = 0)) (hd : Cls w w.heap.size ad cD0) :
    Calls Try.prog 16 #[.int .i64 1, .slice am 3 cm, .slice ad 2 cd] w (JoinPost (cL0, 0) w) := by
  have h := njoin_any 1 am cm cM0 ad cd cD0 w (by unfold maxLen; decide) hm (by unfold maxLen; decide) hq okD0 hd
  have e : C.joinR 1 cM0 cD0 = (cL0, 0) := by decide +kernel
  rw [e] at h; exact h
theorem bjoin1 (am ad : Option Addr) (cm cd : Nat) (w : World) (hm : Bools w w.heap.size am cM0) (hq : 1 ≤ cd ∧ cd ≤ maxLen ∧ (ad = none → cd = 0)) (hd : Cls w w.heap.size ad cD0) :
    Calls Try.prog 16 #[.int .i64 1, .slice am 3 cm, .slice ad 1 cd] w (JoinPost ([], 1) w) := by
  have h := njoin_any 1 am cm cM0 ad cd [⟨1, 5, []⟩] w (by unfold maxLen; decide) hm (by unfold maxLen; decide) hq (fun x hx => by simp only [List.mem_cons, List.not_mem_nil, or_false] at hx; subst hx; exact cok1 5 (by omega)) (hd.take 1)
  have e : C.joinR 1 cM0 [⟨1, 5, []⟩] = ([], 1) := by decide +kernel
  rw [e] at h; exact h
theorem bat (am ad : Option Addr) (cm cd : Nat) (w : World) (hm : Bools w w.heap.size am cM0) (hqm : 3 ≤ cm ∧ cm ≤ maxLen ∧ (am = none → cm = 0)) (hd : Cls w w.heap.size ad cD0) :
    Calls Try.prog 17 #[.int .i64 1, .slice am 3 cm, .slice ad 2 cd, .int .i64 2] w (fun e w' => e = .returned (.tuple #[.agg #[.int .i64 1, .int .u64 7, .string ⟨#[]⟩], .int .i64 0]) ∧ Below w.heap.size w w') := by
  have h := nat_any 1 2 am cm cM0 ad cd cD0 w hqm hm (by unfold maxLen; decide) okD0 hd
  have e : atR 1 cM0 cD0 2 = (⟨1, 7, []⟩, 0) := by decide +kernel
  rw [e] at h; exact h
theorem bsm (am a2 : Option Addr) (cm : Nat) (w : World) (h1 : Bools w w.heap.size am cM0) (h2 : Bools w w.heap.size a2 cM0) : Calls Try.prog 12 #[.slice am 3 cm, .slice a2 3 3] w (BoolPost true w) :=
  msame_any am a2 cm 3 cM0 cM0 w _ h1 h2 (by decide)
def bl : Nat → List C.Cl
  | 2 => cD0
  | _ => cL0
theorem bsame (a a2 : Option Addr) (c c2 n : Nat) (w : World) (h1 : Cls w w.heap.size a (bl n)) (h2 : Cls w w.heap.size a2 (bl n)) (hl : (bl n).length = n ∧ n < 10) : Calls Try.prog 14 #[.slice a n c, .slice a2 n c2] w (BoolPost true w) := by
  have h := csame_any a a2 c c2 (bl n) (bl n) w _ h1 h2 (by omega)
  rw [hl.1, decide_eq_true rfl] at h; exact h
theorem bchk (a : Option Addr) (w : World) (h : Cls w w.heap.size a cL0) : Calls Try.prog 11 #[.int .i64 2, .slice a 3 3] w (CErrPost 7 w) := by
  have h := ncheck_any 2 a 3 cL0 w (by unfold maxLen; decide) okL0 h
  have e : C.chk 2 cL0 = 7 := by decide +kernel
  rw [e] at h; exact h
theorem bless (w : World) : Calls Try.prog 19 #[.agg #[.int .i64 0, .int .u64 0, .string ⟨#[]⟩], .agg #[.int .i64 1, .int .u64 0, .string ⟨#[]⟩]] w (BoolPost true w) := by
  have h := nless_any C.null ⟨1, 0, []⟩ w
  have e : C.less C.null ⟨1, 0, []⟩ = true := by decide +kernel
  rw [e] at h; exact h

theorem k3_drew {G : Nat} {v0 v1 v2 : Value} {w W : World} (h : W.cell? ⟨G, 0, none⟩ = some v0 ∧ W.cell? ⟨G, 1, none⟩ = some v1 ∧ W.cell? ⟨G, 2, none⟩ = some v2 ∧ Below w.heap.size w W) : W.drew.cell? ⟨G, 0, none⟩ = some v0 ∧ W.drew.cell? ⟨G, 1, none⟩ = some v1 ∧ W.drew.cell? ⟨G, 2, none⟩ = some v2 ∧ Below w.heap.size w W.drew := ⟨h.1, h.2.1, h.2.2.1, h.2.2.2.drew⟩
theorem k3_below {G : Nat} {v0 v1 v2 : Value} {w W W' : World} (hb : Below W.heap.size W W') (h : W.cell? ⟨G, 0, none⟩ = some v0 ∧ W.cell? ⟨G, 1, none⟩ = some v1 ∧ W.cell? ⟨G, 2, none⟩ = some v2 ∧ Below w.heap.size w W) : W'.cell? ⟨G, 0, none⟩ = some v0 ∧ W'.cell? ⟨G, 1, none⟩ = some v1 ∧ W'.cell? ⟨G, 2, none⟩ = some v2 ∧ Below w.heap.size w W' := by
  have hlt : G < W.heap.size := by
    rcases Nat.lt_or_ge G W.heap.size with hlt | hge
    · exact hlt
    · have := h.1; simp [World.cell?, Array.getElem?_eq_none hge] at this
  exact ⟨(hb.cell (p := ⟨G, 0, none⟩) hlt).trans h.1, (hb.cell (p := ⟨G, 1, none⟩) hlt).trans h.2.1, (hb.cell (p := ⟨G, 2, none⟩) hlt).trans h.2.2.1, below_then h.2.2.2 hb⟩
theorem k3_alloc {G : Nat} {v0 v1 v2 : Value} {w W : World} {o : Obj} (h : W.cell? ⟨G, 0, none⟩ = some v0 ∧ W.cell? ⟨G, 1, none⟩ = some v1 ∧ W.cell? ⟨G, 2, none⟩ = some v2 ∧ Below w.heap.size w W) : (W.alloc o).cell? ⟨G, 0, none⟩ = some v0 ∧ (W.alloc o).cell? ⟨G, 1, none⟩ = some v1 ∧ (W.alloc o).cell? ⟨G, 2, none⟩ = some v2 ∧ Below w.heap.size w (W.alloc o) :=
  k3_below ((Below.refl _ _).alloc (Nat.le_refl _) _) h
theorem blit_drew (w : World) : Bools (w.alloc (.cells #[.bool true, .bool false, .bool true] 4)).drew (w.alloc (.cells #[.bool true, .bool false, .bool true] 4)).drew.heap.size (some ⟨w.heap.size, 0, none⟩) cM0 := by
  have h := bools_lit w cM0
  intro hne
  obtain ⟨b, off, e, hb, hc⟩ := h hne
  exact ⟨b, off, e, hb, hc⟩
theorem clit (w : World) : Cls (w.alloc (.cells #[.int .i64 1, .int .u64 5, .string ⟨#[]⟩, .int .i64 1, .int .u64 7, .string ⟨#[]⟩] 38)) (w.alloc (.cells #[.int .i64 1, .int .u64 5, .string ⟨#[]⟩, .int .i64 1, .int .u64 7, .string ⟨#[]⟩] 38)).heap.size (some ⟨w.heap.size, 0, none⟩) cD0 := cls_lit w cD0
theorem below_of {w W1 W2 : World} (h : Below w.heap.size w W1) (e : W1 = W2) : Below w.heap.size w W2 := e ▸ h

set_option maxHeartbeats 4000000 in
set_option maxRecDepth 100000 in
theorem nbegun_any (w : World) : Calls Try.prog 10 #[] w (BoolPost true w) := by
  go_enter Try.func10, Try.ntmps10
  go_wp2_with fail
  refine (cnum_any 5 _).mono ?_
  rintro e w1 ⟨rfl, hb1⟩
  go_wp2_with fail
  refine (cnum_any 7 _).mono ?_
  rintro e w2 ⟨rfl, hb2⟩
  have h2 := below_then hb1 hb2
  go_wp2_with fail
  refine (ccells_any _ _).mono ?_
  rintro e w3 ⟨rfl, rfl⟩
  have hl : Cls (w2.alloc (.cells #[.int .i64 1, .int .u64 5, .string ⟨#[]⟩, .int .i64 0, .int .u64 0, .string ⟨#[]⟩, .int .i64 1, .int .u64 7, .string ⟨#[]⟩] 38)) (w2.alloc (.cells #[.int .i64 1, .int .u64 5, .string ⟨#[]⟩, .int .i64 0, .int .u64 0, .string ⟨#[]⟩, .int .i64 1, .int .u64 7, .string ⟨#[]⟩] 38)).heap.size (some ⟨w2.heap.size, 0, none⟩) cL0 := cls_lit w2 cL0
  have h3 := h2.alloc h2.size (.cells #[.int .i64 1, .int .u64 5, .string ⟨#[]⟩, .int .i64 0, .int .u64 0, .string ⟨#[]⟩, .int .i64 1, .int .u64 7, .string ⟨#[]⟩] 38)
  generalize w2.alloc (.cells #[.int .i64 1, .int .u64 5, .string ⟨#[]⟩, .int .i64 0, .int .u64 0, .string ⟨#[]⟩, .int .i64 1, .int .u64 7, .string ⟨#[]⟩] 38) = W3 at *
  generalize w2.heap.size = lb at *
  clear hb1 hb2 h2
  go_wp2_with fail
  refine (bsplit _ _ hl).mono ?_
  rintro e w4 ⟨am, cm, v, rfl, hM4, hqm, hrow, hb4⟩
  obtain ⟨ad, cd, rfl, hD4, hqd⟩ := cRow_cls hrow
  have hL4 := hl.next hb4
  have h4 := below_then h3 hb4
  clear hrow hl h3 hb4
  go_wp2_with fail
  refine (bjoin am ad cm cd _ hM4 hqd hD4).mono ?_
  rintro e w5 ⟨vj, rfl, hrow5, hb5⟩
  obtain ⟨aj, cj, rfl, hJ5, hqj⟩ := cRow_cls hrow5
  have hL5 := hL4.next hb5
  have hM5 := hM4.next hb5
  have hD5 := hD4.next hb5
  have h5 := below_then h4 hb5
  clear hrow5 hL4 hM4 hD4 h4 hb5
  go_wp2_with fail
  refine (bat am ad cm cd _ hM5 hqm hD5).mono ?_
  rintro e w6 ⟨rfl, hb6⟩
  have hb7 : Below w5.heap.size w5 (w6.alloc (.cells #[.int .i64 1, .int .u64 7, .string ⟨#[]⟩] 38)) := hb6.alloc hb6.size _
  have hL7 := hL5.next hb7
  have hM7 := hM5.next hb7
  have hD7 := hD5.next hb7
  have hJ7 := hJ5.next hb7
  have h7 := below_then h5 hb7
  have hT7 := tri_new w6 (.int .i64 1) (.int .u64 7) (.string ⟨#[]⟩)
  clear hL5 hM5 hD5 hJ5 h5 hb6 hb7
  obtain ⟨db, doff, rfl, hdb, _⟩ := hD7 (by simp)
  have hc1 : (1 : Int) ≤ (cd : Int) := by have := hqd.1; simp at this; omega
  have HJ := Lib.hid (bjoin1 am (some ⟨db, doff, none⟩) cm cd _ hM7 ⟨by omega, hqd.2.1, hqd.2.2⟩ hD7)
  go_wp2_with fail
  refine (HJ.out).mono ?_
  rintro e w8 ⟨v8, rfl, hrow8, hb8⟩
  have hL8 := hL7.next hb8
  have hM8 := hM7.next hb8
  have hD8 := hD7.next hb8
  have hJ8 := hJ7.next hb8
  have h8 := below_then h7 hb8
  have hT8 := hT7.next hb8
  obtain ⟨a8, c8, rfl, _, _⟩ := cRow_cls hrow8
  clear hL7 hM7 hD7 hJ7 h7 hb8 hT7 HJ hrow8
  generalize w6.heap.size = G at *
  go_wp2_with fail
  have heq := fun w => cell_eql_cell w ⟨1, 7, []⟩ ⟨1, 7, []⟩
  have hgd := guards_cell .eql
  have heq : ∀ w, (binOp .eql 38 (.agg #[.int .i64 1, .int .u64 7, .string ⟨#[]⟩]) (.agg #[.int .i64 1, .int .u64 7, .string ⟨#[]⟩])).run Try.prog w = .ok (.bool true) w := heq
  have t0 := hT8.c0
  have t1 := hT8.c1
  have t2 := hT8.c2
  have hself : Below w8.heap.size w8 w8 := Below.refl _ _
  go_region_held3 (fun W => W.cell? ⟨G, 0, none⟩ = some (.int .i64 1) ∧ W.cell? ⟨G, 1, none⟩ = some (.int .u64 7) ∧ W.cell? ⟨G, 2, none⟩ = some (.string ⟨#[]⟩) ∧ Below w8.heap.size w8 W)
    (first
      | assumption
      | (refine ⟨?_, ?_, ?_, ?_⟩ <;> assumption)
      | (refine k3_drew ?_; first | assumption | (refine ⟨?_, ?_, ?_, ?_⟩ <;> assumption))
      | (refine k3_alloc ?_; first | assumption | (refine ⟨?_, ?_, ?_, ?_⟩ <;> assumption))
      | (refine k3_below hb9 ?_; first | assumption | (refine ⟨?_, ?_, ?_, ?_⟩ <;> assumption))
      | (refine k3_drew (k3_alloc ?_); first | assumption | (refine ⟨?_, ?_, ?_, ?_⟩ <;> assumption)))
    (first
      | (go_at_call 24; refine (cmarks_any _ _).mono ?_; rintro e w9 ⟨rfl, rfl⟩)
      | (go_at_call 23; refine (ccells_any _ _).mono ?_; rintro e w9 ⟨rfl, rfl⟩)
      | (go_at_call 12; refine (bsm _ _ _ _ ?_ ?_).mono ?_; exact (hM8.next (show _ ∧ _ ∧ _ ∧ Below w8.heap.size w8 _ by assumption).2.2.2); exact blit_drew _; rintro e w9 ⟨rfl, hb9⟩)
      | (go_at_call 21; refine (cnum_any _ _).mono ?_; rintro e w9 ⟨rfl, hb9⟩)
      | (go_at_call 14; refine (bsame _ _ _ _ _ _ ?_ ?_ ?_).mono ?_; (first | exact (hD8.next (show _ ∧ _ ∧ _ ∧ Below w8.heap.size w8 _ by assumption).2.2.2) | exact (hJ8.next (show _ ∧ _ ∧ _ ∧ Below w8.heap.size w8 _ by assumption).2.2.2)); (first | exact (hL8.next (show _ ∧ _ ∧ _ ∧ Below w8.heap.size w8 _ by assumption).2.2.2) | exact clit _); (exact ⟨rfl, by omega⟩); rintro e w9 ⟨rfl, hb9⟩)
      | (go_at_call 11; refine (bchk _ _ ?_).mono ?_; exact (hL8.next (show _ ∧ _ ∧ _ ∧ Below w8.heap.size w8 _ by assumption).2.2.2); rintro e w9 ⟨rfl, hb9⟩)
      | (go_at_call 19; refine (bless _).mono ?_; rintro e w9 ⟨rfl, hb9⟩))
  all_goals
    go_wp2_with fail
    go_ret
    exact ⟨rfl, below_then h8 (show _ ∧ _ ∧ _ ∧ Below w8.heap.size w8 _ by assumption).2.2.2⟩
end Go.Proofs.Ytocgimimmajjhaa
