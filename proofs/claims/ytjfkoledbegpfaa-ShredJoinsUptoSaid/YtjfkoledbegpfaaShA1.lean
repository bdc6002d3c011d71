/- The walks of the assembler's next, put. -/
import Derived.Test.YtjfkoledbegpfaaShAs
import Derived.Test.YtjfkoledbegpfaaShS1
namespace Go.Proofs.Ytjfkoledbegpfaa
open Go.RowKit
open Sh (Lv)
set_option linter.unusedVariables false

theorem wpList_append_u64 {w : World} {ops : Array Oper} {rest : List Oper} {o : Oper} {a : Act} {Q : Exit → Act → World → Prop} (hgd : o.guard = none) (s x : Operand)
    (ho : o.op = .call { callee := .builtin .append, args := #[s, x], argTypes := #[47, 47] }) (base : Nat)
    (v : Value) (n : Nat) (xs : List Value) (hs : a.eval s = v) (hown : w.ownsRow base 41 1 v n xs)
    (g : Nat) (y : Nat) (hx : a.eval x = .slice (some ⟨g, 0, none⟩) 1 1) (hc : w.heap[g]? = some (.cells #[.int .u64 (y : Int)] 41 (0, 0)))
    (hbytes : (n + 1) * 8 ≤ 140737488355328) (hbase : base ≤ w.heap.size)
    (h : ∀ g' cap w', w'.ownsRow base 41 1 (.slice (some ⟨g', 0, none⟩) (n + 1) cap) (n + 1) (xs ++ [.int .u64 (y : Int)]) → w.grownBy w' v.ownBlock → (v.ownBlock = some g' ∨ g' = w.heap.size) → g' < w'.heap.size → wpList Try.prog ops Q rest (a.put o.dst (.slice (some ⟨g', 0, none⟩) (n + 1) cap)) w') : wpList Try.prog ops Q (o :: rest) a w := by
  obtain ⟨i, hi, hz0, hz1, hz2⟩ := info_parts info_u64
  refine wpList_append_lies w hgd s x 47 ho base 41 i (.int .u64 0) 1 8 Try.underlying47 hi hz0 hz1 hz2 rfl (by decide) v n xs hs hown ⟨g, 0, none⟩ 1 1 [.int .u64 (y : Int)] hx rfl ?_ ?_ (by omega) (by unfold maxLen; omega) hbytes hbase w.heap.size rfl (fun g' cap w' h1 h2 h3 h4 => h g' cap w' h1 h2 h3 h4)
  · exact World.news_of_block hc
  · intro u hu; simp at hu; subst hu; rfl

def NextLvPost (w : World) (l : List Lv) (e : Ending) (w' : World) : Prop :=
  Below w.heap.size w w' ∧ match l with
  | [] => e = gaveUp 1
  | x :: _ => e = .returned (.agg #[.int .i64 x.1, .int .i64 x.2.1, .int .u64 (x.2.2 : Nat)])

set_option maxHeartbeats 2000000 in
set_option maxRecDepth 100000 in
theorem asnext_any (w : World) (B S C N cN : Nat) (lefts : List (List Lv)) (vs : List Value) (rec : List Nat) (rv : Value) (h : Asd w B S C N cN lefts vs rec rv) (c : Nat) (hc : c < N) :
    Calls Try.prog 69 #[.pointer (some ⟨S, 0, none⟩), .int .i64 (c : Nat)] w (NextLvPost w (lefts.getD c [])) := by
  have HS := Lib.hid h
  have s0 : w.cell? ⟨S, 0, none⟩ = some (.slice (some ⟨C, 0, none⟩) N cN) := h.s.c 0
  have hSl := h.s.lt
  have hCl := h.c.lt
  have hN := h.nb
  have n1 : ¬ S = w.heap.size := by omega
  have n2 : ¬ C = w.heap.size := by omega
  have hcI : (c : Int) < (N : Int) := by omega
  obtain ⟨a, cap, hv, hlv, hl1, hl2, hlo⟩ := h.lv c hc
  obtain ⟨l, hl⟩ : ∃ l, lefts.getD c [] = l := ⟨_, rfl⟩
  rw [hl] at hv hlv hl1 hlo ⊢
  have cc : w.cell? ⟨C, c, none⟩ = some (.slice a l.length cap) := by
    rw [h.c.c c, ← hv]
    have : c < vs.length := Nat.lt_of_lt_of_le hc h.vl
    simp [List.getD, List.getElem?_eq_getElem this]
  unfold maxLen at hl2
  have HBe := Lib.hid ((Below.refl w.heap.size w).alloc (Nat.le_refl _) (.cells #[.int .i64 0, .int .i64 0, .int .u64 0] 43))
  clear h hv hlo hl
  cases l with
  | nil =>
    simp only [List.length_nil] at cc
    go_enter Try.func69, Try.ntmps69
    go_wp2_with fail
    refine And.intro rfl ?_
    exact (⟨HBe.out, rfl⟩ : NextLvPost w [] (gaveUp 1) _)
  | cons x t =>
    obtain ⟨b, off, rfl, hb, hcl⟩ := hlv (by simp)
    obtain ⟨q0, q1, q2⟩ := hcl 0 (by simp)
    simp only [Nat.zero_mul, Nat.add_zero] at q0 q1 q2
    have q0 : w.cell? ⟨b, off, none⟩ = some (.int .i64 x.1) := q0
    have q1 : w.cell? ⟨b, off + 1, none⟩ = some (.int .i64 x.2.1) := q1
    have q2 : w.cell? ⟨b, off + 2, none⟩ = some (.int .u64 (x.2.2 : Nat)) := q2
    obtain ⟨X0, hX0⟩ : ∃ X0, X0 = x.1 := ⟨_, rfl⟩
    obtain ⟨X1, hX1⟩ : ∃ X1, X1 = x.2.1 := ⟨_, rfl⟩
    obtain ⟨X2, hX2⟩ : ∃ X2, X2 = x.2.2 := ⟨_, rfl⟩
    rw [← hX0] at q0
    rw [← hX1] at q1
    rw [← hX2] at q2
    have HX := Lib.hid (And.intro hX0 (And.intro hX1 hX2))
    have hbl : b < w.heap.size := by have := HS.out.bs; omega
    have n3 : ¬ b = w.heap.size := by omega
    simp only [List.length_cons] at cc hl1
    have hI : (0 : Int) < ((t.length + 1 : Nat) : Int) := by omega
    have hI0 : (((t.length + 1 : Nat) : Int) == 0) = false := by rw [beq_eq_false_iff_ne]; omega
    clear hcl hX0 hX1 hX2
    go_enter Try.func69, Try.ntmps69
    go_wp2_with fail
    have CS := cel_new w #[.int .i64 x.1, .int .i64 x.2.1, .int .u64 (x.2.2 : Nat)] 43
    have HB := (Below.refl w.heap.size w).alloc (Nat.le_refl _) (.cells #[.int .i64 x.1, .int .i64 x.2.1, .int .u64 (x.2.2 : Nat)] 43)
    generalize w.alloc (.cells #[.int .i64 x.1, .int .i64 x.2.1, .int .u64 (x.2.2 : Nat)] 43) = WE at CS HB ⊢
    have z0 : WE.cell? ⟨w.heap.size, 0, none⟩ = some (.int .i64 x.1) := CS.c 0
    have z1 : WE.cell? ⟨w.heap.size, 1, none⟩ = some (.int .i64 x.2.1) := CS.c 1
    have z2 : WE.cell? ⟨w.heap.size, 2, none⟩ = some (.int .u64 (x.2.2 : Nat)) := CS.c 2
    clear CS
    exact bodyPost_ret (v := .agg #[.int .i64 x.1, .int .i64 x.2.1, .int .u64 (x.2.2 : Nat)]) (by simp [results, Try.results69, go_sem, z0, z1, z2]) rfl ⟨HB, rfl⟩

def PutPost (w : World) (B S C N cN : Nat) (lefts : List (List Lv)) (vs : List Value) (R : Option (List Nat)) (rv : Value) (e : Ending) (w' : World) : Prop :=
  ∃ rv', Fr S C w w' [rv] [rv'] ∧ match R with
  | none => e = gaveUp 1
  | some rec' => e = .returned (.tuple #[]) ∧ Asd w' B S C N cN lefts vs rec' rv'

set_option maxHeartbeats 2000000 in
set_option maxRecDepth 100000 in
theorem put_any (w : World) (B S C N cN : Nat) (lefts : List (List Lv)) (vs : List Value) (rec : List Nat) (rv : Value) (h : Asd w B S C N cN lefts vs rec rv) (n : Nat) :
    Calls Try.prog 68 #[.pointer (some ⟨S, 0, none⟩), .int .u64 (n : Int)] w (PutPost w B S C N cN lefts vs (Sh.asPut rec n) rv) := by
  have HS := Lib.hid h
  have hSl := h.s.lt
  have hrl := h.rl
  have s1 : w.cell? ⟨S, 1, none⟩ = some rv := h.s.c 1
  have sz := h.s.free 1
  have n1 : ¬ S = w.heap.size := by omega
  obtain ⟨m, hm⟩ : ∃ m, rec.length = m := ⟨_, rfl⟩
  have hrv : ∃ aa ca, rv = .slice aa m ca := by
    rcases h.own.2 with ⟨e, h0⟩ | ⟨g, cap, cur, e, -⟩
    · exact ⟨none, 0, by rw [e, ← hm, h0]⟩
    · exact ⟨_, _, by rw [e, hm]⟩
  have hown := h.own
  rw [hm] at hown hrl
  have HM := Lib.hid hm
  have HOWN := Lib.hid hown
  clear h hm hown
  obtain ⟨aa, ca, rfl⟩ := hrv
  by_cases h64 : m = 64
  · have hP : Sh.asPut rec n = none := by unfold Sh.asPut; rw [HM.out, if_pos h64]
    rw [hP]
    subst h64
    go_enter Try.func68, Try.ntmps68
    go_wp2_with fail
    refine And.intro rfl ?_
    exact (⟨_, Fr.refl S C w _, rfl⟩ : PutPost w B S C N cN lefts vs none (.slice aa 64 ca) (gaveUp 1) w)
  · have hP : Sh.asPut rec n = some (rec ++ [n]) := by unfold Sh.asPut; rw [HM.out, if_neg h64]
    rw [hP]
    have hI : ((m : Int) == 64) = false := by rw [beq_eq_false_iff_ne]; omega
    have hml : (m + 1) * 8 ≤ 140737488355328 := by omega
    have hbA : B ≤ w.heap.size + 1 := by have := HS.out.bs; omega
    go_enter Try.func68, Try.ntmps68
    go_wp2_with (at_builtin; refine wpList_append_u64 rfl (.tmp 15) (.tmp 17) rfl B (.slice aa m ca) m (nv rec) rfl (HOWN.out.alloc _) w.heap.size n rfl (heap_alloc_new w _) hml (by simp; exact hbA) ?_; intro g6 cap6 w6 hown6 hg6 hor6 hlt6; have hS6 := (show Cel w6 S _ _ from (hg6.block S (by simp; omega) (fun e => HS.out.far.1 e.symm)).trans (HS.out.s.alloc _)); have s66 : w6.cell? ⟨S, 1, none⟩ = some (.slice aa m ca) := hS6.c 1; have z66 := hS6.free 1)
    have HX2 := HS.out.next ((Below.refl _ _).alloc (Nat.le_refl _) (.cells #[.int .u64 (n : Int)] 41))
    have e5 := HM.out
    subst e5
    refine bodyPost_ret (v := .tuple #[]) (by simp [results, Try.results68, go_sem]) rfl ⟨_, ((Fr.refl S C w _).alloc _).trans (frPut hg6 hor6), rfl, HX2.put (by omega) hown6 hg6 hor6⟩
end Go.Proofs.Ytjfkoledbegpfaa
