/- The walks of the shredder's take, often, level. -/
import Derived.Test.YtjfkoledbegpfaaShSd
namespace Go.Proofs.Ytjfkoledbegpfaa
open Go.RowKit
open Sh (Lv lsum len_lsum)
set_option linter.unusedVariables false

def gaveUp (n : Nat) : Ending := .panicked [{ v := .iface 78 (.int .i64 (n : Int)), recovered := false }]
def TakePost (w : World) (B S C N : Nat) (ls : List Nat) (cap : Nat) (cols : List (List Lv)) (vs : List Value) (sl : Nat) (e : Ending) (w' : World) : Prop :=
  match ls with
  | [] => e = gaveUp 1 ∧ w' = w
  | n :: t => e = .returned (.int .u64 (n : Int)) ∧ Fr S C w w' vs vs ∧ ∃ a', Shd w' B S C N a' t (cap - 1) cols vs (sl + 12)

set_option maxHeartbeats 2000000 in
set_option maxRecDepth 100000 in
theorem take_any (w : World) (B S C N : Nat) (a : Option Addr) (ls : List Nat) (cap : Nat) (cols : List (List Lv)) (vs : List Value) (sl : Nat) (h : Shd w B S C N a ls cap cols vs sl) :
    Calls Try.prog 65 #[.pointer (some ⟨S, 0, none⟩)] w (TakePost w B S C N ls cap cols vs sl) := by
  have HS := Lib.hid h
  have s0 : w.cell? ⟨S, 0, none⟩ = some (.slice a ls.length cap) := h.s.c 0
  have sz := h.s.free 0
  cases ls with
  | nil =>
    simp only [List.length_nil] at s0
    clear h
    go_enter Try.func65, Try.ntmps65
    go_wp2_with fail
    exact ⟨rfl, (⟨rfl, rfl⟩ : gaveUp 1 = gaveUp 1 ∧ w = w)⟩
  | cons n t =>
    obtain ⟨b, off, rfl, hb, hc⟩ := h.nums (by simp)
    have c0 : w.cell? ⟨b, off, none⟩ = some (.int .u64 (n : Int)) := by have := hc 0 (by simp); simpa using this
    have hbS : ¬ b = S := by have := h.bs.1; omega
    have hcap := h.cap
    have hsum := h.sum
    simp only [List.length_cons] at s0 hcap hsum
    have hlt := h.lt
    have hcut := Nums.cut1 h.nums h.cap.1
    have hI : (0 : Int) < ((t.length + 1 : Nat) : Int) := by omega
    have hI1 : (1 : Int) ≤ ((t.length + 1 : Nat) : Int) := by omega
    obtain ⟨A, hA⟩ : ∃ A, (if cap = 1 then some (⟨b, off, none⟩ : Addr) else some ⟨b, off + 1, none⟩) = A := ⟨_, rfl⟩
    rw [hA] at hcut
    have HCUT := Lib.hid hcut
    have HSUM := Lib.hid hsum
    have HLT := Lib.hid hlt
    unfold maxLen at hcap
    clear h hc hcut hsum hlt
    go_enter Try.func65, Try.ntmps65
    go_wp2_with fail
    go_ret
    refine ⟨rfl, HS.out.frLeft _, A, ?_⟩
    exact HS.out.left HCUT.out (fun m hm => HLT.out m (List.mem_cons_of_mem _ hm)) (by unfold maxLen; omega) (by have := HSUM.out; omega)

def OftenPost (w : World) (B S C N r : Nat) (ls : List Nat) (cap : Nat) (cols : List (List Lv)) (vs : List Value) (sl : Nat) (e : Ending) (w' : World) : Prop :=
  match ls with
  | [] => e = gaveUp 1 ∧ Fr S C w w' vs vs
  | n :: t => if r = 1 ∧ 1 < n then e = gaveUp 1 ∧ Fr S C w w' vs vs else e = .returned (.int .u64 (n : Int)) ∧ Fr S C w w' vs vs ∧ ∃ a', Shd w' B S C N a' t (cap - 1) cols vs (sl + 12)

theorem often_bad {w : World} {B S C N r : Nat} {n : Nat} {t : List Nat} {cap : Nat} {cols : List (List Lv)} {vs : List Value} {sl : Nat} {w' : World} (h : r = 1 ∧ 1 < n) (hf : Fr S C w w' vs vs) :
    OftenPost w B S C N r (n :: t) cap cols vs sl (gaveUp 1) w' := by
  show if r = 1 ∧ 1 < n then _ else _
  rw [if_pos h]; exact ⟨rfl, hf⟩
theorem often_good {w : World} {B S C N r : Nat} {n : Nat} {t : List Nat} {cap : Nat} {cols : List (List Lv)} {vs : List Value} {sl : Nat} {w' : World} (h : ¬ (r = 1 ∧ 1 < n)) (hf : Fr S C w w' vs vs) (a' : Option Addr) (hs : Shd w' B S C N a' t (cap - 1) cols vs (sl + 12)) :
    OftenPost w B S C N r (n :: t) cap cols vs sl (.returned (.int .u64 (n : Int))) w' := by
  show if r = 1 ∧ 1 < n then _ else _
  rw [if_neg h]; exact ⟨rfl, hf, a', hs⟩

set_option maxHeartbeats 2000000 in
set_option maxRecDepth 100000 in
theorem often_any (w : World) (B S C N : Nat) (a : Option Addr) (ls : List Nat) (cap : Nat) (cols : List (List Lv)) (vs : List Value) (sl : Nat) (h : Shd w B S C N a ls cap cols vs sl)
    (r : Nat) (hr : r ≤ 2) (v1 v2 v3 v4 v5 : Value) (ho : v1.oneCell' = true ∧ v2.oneCell' = true ∧ v3.oneCell' = true ∧ v4.oneCell' = true ∧ v5.oneCell' = true) :
    Calls Try.prog 64 #[.pointer (some ⟨S, 0, none⟩), .agg #[.int .i64 (r : Nat), v1, v2, v3, v4, v5]] w (OftenPost w B S C N r ls cap cols vs sl) := by
  have HS := Lib.hid h
  clear h
  obtain ⟨o1, o2, o3, o4, o5⟩ := ho
  go_enter Try.func64, Try.ntmps64
  go_wp2_with fail
  have F1 := cel_new w #[.int .i64 (r : Nat), v1, v2, v3, v4, v5] 50
  have H1 := HS.out.next ((Below.refl _ _).alloc (Nat.le_refl _) (.cells #[.int .i64 (r : Nat), v1, v2, v3, v4, v5] 50))
  have R1 := (Fr.refl S C w vs).alloc (.cells #[.int .i64 (r : Nat), v1, v2, v3, v4, v5] 50)
  have S1 : (w.alloc (.cells #[.int .i64 (r : Nat), v1, v2, v3, v4, v5] 50)).heap.size = w.heap.size + 1 := by simp
  have hno : ¬ Out S C vs w.heap.size := fun e => by have := (HS.out.out e).2; omega
  generalize w.alloc (.cells #[.int .i64 (r : Nat), v1, v2, v3, v4, v5] 50) = w1 at *
  refine (take_any w1 B S C N a ls cap cols vs sl H1).mono ?_
  intro e w2 hp
  cases ls with
  | nil =>
    obtain ⟨rfl, rfl⟩ := hp
    exact ⟨rfl, (⟨rfl, R1⟩ : gaveUp 1 = gaveUp 1 ∧ Fr S C w w2 vs vs)⟩
  | cons n t =>
    obtain ⟨rfl, hfr, a', hsd⟩ := hp
    have f0 : w2.cell? ⟨w.heap.size, 0, none⟩ = some (.int .i64 (r : Nat)) := (F1.fr hno hfr).c 0
    have HSD := Lib.hid hsd
    have HFR := Lib.hid (R1.trans hfr)
    clear hsd hfr F1 H1 R1
    by_cases h1 : r = 1
    · subst h1
      by_cases hn : 1 < n
      · have hnI : (1 : Int) < (n : Int) := by omega
        go_wp2_with fail
        exact ⟨rfl, often_bad ⟨rfl, hn⟩ HFR.out⟩
      · have hnI : ¬ (1 : Int) < (n : Int) := by omega
        go_wp2_with fail
        go_ret
        exact often_good (fun h => hn h.2) HFR.out a' HSD.out
    · have hrI : ¬ (r : Int) = 1 := by omega
      go_wp2_with fail
      go_ret
      exact often_good (fun h => h1 h.1) HFR.out a' HSD.out

def LevelPost (w : World) (B S C N : Nat) (R : Option Sh.Sd) (vs : List Value) (sl : Nat) (e : Ending) (w' : World) : Prop :=
  ∃ vs', Fr S C w w' vs vs' ∧ match R with
    | none => e = gaveUp 1
    | some st => e = .returned (.tuple #[]) ∧ ∃ a' cap', Shd w' B S C N a' st.1 cap' st.2 vs' sl

set_option maxHeartbeats 2000000 in
set_option maxRecDepth 100000 in
theorem level_no (w : World) (B S C N : Nat) (a : Option Addr) (ls : List Nat) (cap : Nat) (cols : List (List Lv)) (vs : List Value) (sl : Nat) (h : Shd w B S C N a ls cap cols vs (sl + 1))
    (c rep d : Nat) (hc : c < N) :
    Calls Try.prog 63 #[.pointer (some ⟨S, 0, none⟩), .int .i64 (c : Nat), .agg #[.int .i64 (rep : Nat), .int .i64 (d : Nat), .int .u64 0], .bool false] w
      (LevelPost w B S C N (Sh.sdLevel (ls, cols) c rep d false) vs sl) := by
  have HS := Lib.hid h
  have hN := h.nb
  have s1 : w.cell? ⟨S, 1, none⟩ = some (.slice (some ⟨C, 0, none⟩) N N) := h.s.c 1
  have hSl := h.s.lt
  have hCl := h.c.lt
  have n1 : ¬ S = w.heap.size := by omega
  have n2 : ¬ C = w.heap.size := by omega
  have cc : w.cell? ⟨C, c, none⟩ = some (vs.getD c undef) := by
    rw [h.c.c c]
    have : c < vs.length := by rw [h.vl]; exact hc
    simp [List.getD, List.getElem?_eq_getElem this]
  have cz := h.c.free c
  have hcI : (c : Int) < (N : Int) := by omega
  obtain ⟨v, hv⟩ : ∃ v, vs.getD c undef = v := ⟨_, rfl⟩
  have hown := h.own c hc
  have hfar := h.far c hc
  rw [hv] at cc hown hfar
  have HV := Lib.hid hv
  clear hv h
  go_enter Try.func63, Try.ntmps63
  go_wp2_with fail
  have L1 := cel_new w #[.int .i64 (rep : Nat), .int .i64 (d : Nat), .int .u64 0] 43
  have H1 := HS.out.next ((Below.refl _ _).alloc (Nat.le_refl _) (.cells #[.int .i64 (rep : Nat), .int .i64 (d : Nat), .int .u64 0] 43))
  have R1 := (Fr.refl S C w vs).alloc (.cells #[.int .i64 (rep : Nat), .int .i64 (d : Nat), .int .u64 0] 43)
  have S1 : (w.alloc (.cells #[.int .i64 (rep : Nat), .int .i64 (d : Nat), .int .u64 0] 43)).heap.size = w.heap.size + 1 := by simp
  generalize w.alloc (.cells #[.int .i64 (rep : Nat), .int .i64 (d : Nat), .int .u64 0] 43) = X at *
  clear s1 cc cz
  have s1 : X.cell? ⟨S, 1, none⟩ = some (.slice (some ⟨C, 0, none⟩) N N) := H1.s.c 1
  have cc : X.cell? ⟨C, c, none⟩ = some v := by
    rw [H1.c.c c, ← HV.out]
    have : c < vs.length := by rw [H1.vl]; exact hc
    simp [List.getD, List.getElem?_eq_getElem this]
  have l0 : X.cell? ⟨w.heap.size, 0, none⟩ = some (.int .i64 (rep : Nat)) := L1.c 0
  have l1 : X.cell? ⟨w.heap.size, 1, none⟩ = some (.int .i64 (d : Nat)) := L1.c 1
  have l2 : X.cell? ⟨w.heap.size, 2, none⟩ = some (.int .u64 0) := L1.c 2
  have hown1 := H1.own c hc
  rw [HV.out] at hown1
  obtain ⟨nn, hnn⟩ : ∃ nn, (cols.getD c []).length = nn := ⟨_, rfl⟩
  rw [hnn] at hown1
  have HNN := Lib.hid hnn
  have hlb : (nn + 1) * 24 ≤ 140737488355328 := by have := len_lsum cols c; have := H1.sum; omega
  clear hnn
  have hB1 := H1.bs
  have hSX := H1.s.lt
  have hCX := H1.c.lt
  have hLX : w.heap.size < X.heap.size := by omega
  have m1 : ¬ S = X.heap.size := by omega
  have m2 : ¬ C = X.heap.size := by omega
  have m3 : ¬ w.heap.size = X.heap.size := by omega
  have HX := Lib.hid H1
  have HR := Lib.hid R1
  have HS1 := Lib.hid S1
  have HOW := Lib.hid hown1
  clear L1 H1 R1 S1 hown hown1
  go_region_law (have ownA := HOW.out.drew.alloc (.cells (lvv ((rep : Int), (d : Int), 0)).toArray 43); have hbA : B ≤ (X.drew.alloc (.cells (lvv ((rep : Int), (d : Int), 0)).toArray 43)).heap.size := (by simp; omega); refine step_append_level rfl (.tmp 23) (.tmp 25) rfl B v nn (lvals (cols.getD c [])) rfl ownA X.heap.size (lvv ((rep : Int), (d : Int), 0)) rfl rfl (heap_alloc_new X.drew _) (lvv_one _) hlb hbA ?_; intro g6 cap6 w6 hown6 hg6 hor6 hlt6; have hC6 := (show Cel w6 C vs.toArray _ from (hg6.block C (by simp; omega) (fun e => hfar.2 e.symm)).trans ((HX.out.c.drew).alloc _)); have n66 : w6.cell? ⟨C, c, none⟩ = some v := (by rw [hC6.c c, ← HX.out.c.c c]; exact cc); have z66 := hC6.free c; have hS6 := (show Cel w6 S _ _ from (hg6.block S (by simp; omega) (fun e => hfar.1 e.symm)).trans ((HX.out.s.drew).alloc _)); have s66 : w6.cell? ⟨S, 1, none⟩ = some (.slice (some ⟨C, 0, none⟩) N N) := hS6.c 1)
  all_goals (
    clear n66 z66 s66 ownA hbA hC6 hS6
    have hgg := Lib.hid (show (X.drew.alloc (.cells (lvv ((rep : Int), (d : Int), 0)).toArray 43)).grownBy w6 v.ownBlock from hg6)
    have hoo := Lib.hid (show v.ownBlock = some g6 ∨ g6 = (X.drew.alloc (.cells (lvv ((rep : Int), (d : Int), 0)).toArray 43)).heap.size from hor6)
    have how := Lib.hid hown6
    clear hg6 hor6 hown6
    go_wp2_with fail
    have HX2 := HX.out.drew.next ((Below.refl _ _).alloc (Nat.le_refl _) (.cells (lvv ((rep : Int), (d : Int), 0)).toArray 43))
    have e1 := hgg.out
    have e2 := hoo.out
    have e3 := how.out
    rw [← HV.out] at e1 e2
    have e5 := HNN.out
    subst e5
    refine bodyPost_ret (v := .tuple #[]) (by simp [results, Try.results63, go_sem]) rfl ⟨_, (HR.out.drew.alloc _).trans (HX2.frPush hc e1 e2), rfl, a, cap, HX2.push hc ((rep : Int), (d : Int), 0) e3 e1 e2⟩)
end Go.Proofs.Ytjfkoledbegpfaa
