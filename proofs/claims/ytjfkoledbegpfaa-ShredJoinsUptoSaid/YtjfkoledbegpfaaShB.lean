/- The walks of form, links, shredBegun. -/
import Derived.Test.YtjfkoledbegpfaaShR1
import Derived.Test.YtjfkoledbegpfaaShSm
namespace Go.Proofs.Ytjfkoledbegpfaa
open Go.RowKit
open Sh (Lv)
set_option linter.unusedVariables false

def linksF : List Sh.Fd := [(0, 2), (0, 0), (2, 2), (2, 0), (1, 0)]
def linksK : Sh.F := .cons 0 .nil (.cons 2 (.cons 2 .nil (.cons 1 .nil .nil)) .nil)
def recs0 : List (List Nat) := [[10, 2, 2, 20, 21, 0, 0, 1, 80], [11, 0]]
def want0 : List (List Lv) := [[(0, 0, 10), (0, 0, 11)], [(0, 2, 20), (2, 2, 21), (1, 1, 0), (0, 0, 0)], [(0, 1, 0), (1, 2, 80), (0, 0, 0)]]
theorem linksK_flat : Sh.flat (.cons 0 linksK .nil) = linksF := by decide
theorem linksK_is : Sh.formK linksF = linksK := Sh.formK_is linksK_flat
theorem links_check : Sh.check linksF = 0 := by decide
theorem links_shred : Sh.shR linksF recs0 = .ok want0 := by
  unfold Sh.shR
  rw [linksK_is, links_check, if_neg (by simp), if_neg (by decide)]
  rfl
theorem links_asm : Sh.asmbl linksF want0 = .ok recs0 := by
  unfold Sh.asmbl
  rw [linksK_is, links_check, if_neg (by simp), if_neg (by decide)]
  rfl
theorem links_asm2 : Sh.asmbl linksF (want0.take 2) = .error 1 := by
  unfold Sh.asmbl
  rw [linksK_is, links_check, if_neg (by simp), if_pos (by decide)]
theorem links_lvn : lvn linksF = 3 := by decide
theorem one_check : Sh.check [(0, 0)] = 4 := by decide

def fdv (f : Sh.Fd) : List Value := [.int .i64 f.1, .int .i64 f.2]
theorem fdv_at : ∀ (l : List Sh.Fd) (i j : Nat), i < l.length → j < 2 → (l.flatMap fdv)[i * 2 + j]? = (fdv (l.getD i Sh.fd0))[j]?
  | [], i, j, hi, _ => by simp at hi
  | x :: t, 0, j, _, hj => by
    show (fdv x ++ t.flatMap fdv)[0 * 2 + j]? = _
    rw [Nat.zero_mul, Nat.zero_add, List.getElem?_append_left (by simpa [fdv] using hj)]
    rfl
  | x :: t, i + 1, j, hi, hj => by
    show (fdv x ++ t.flatMap fdv)[(i + 1) * 2 + j]? = _
    have e : (fdv x).length = 2 := rfl
    rw [List.getElem?_append_right (by omega), e, show (i + 1) * 2 + j - 2 = i * 2 + j by omega, fdv_at t i j (by simpa using hi) hj]
    simp
theorem fds_cel {w : World} {G : Nat} {l : List Sh.Fd} {t : TypeId} (h : Cel w G (l.flatMap fdv).toArray t) : Fds w w.heap.size (some ⟨G, 0, none⟩) l := by
  intro _
  refine ⟨G, 0, rfl, h.lt, fun i hi => ?_⟩
  have h0 : (l.flatMap fdv)[i * 2]? = some (.int .i64 (l.getD i Sh.fd0).1) := fdv_at l i 0 hi (by omega)
  have h1 : (l.flatMap fdv)[i * 2 + 1]? = some (.int .i64 (l.getD i Sh.fd0).2) := fdv_at l i 1 hi (by omega)
  refine ⟨?_, ?_⟩
  · rw [h.c, Nat.zero_add, List.getElem?_toArray]; exact h0
  · rw [h.c, Nat.zero_add, List.getElem?_toArray]; exact h1
theorem nums_cel {w : World} {G : Nat} {l : List Nat} {t : TypeId} (h : Cel w G (nv l).toArray t) : Nums w w.heap.size (some ⟨G, 0, none⟩) l := by
  intro _
  refine ⟨G, 0, rfl, h.lt, fun i hi => ?_⟩
  rw [h.c, Nat.zero_add]
  simp [nv, List.getElem?_eq_getElem hi]
theorem lvs_cel {w : World} {G : Nat} {l : List Lv} {t : TypeId} (h : Cel w G (lvals l).toArray t) : Lvs w w.heap.size (some ⟨G, 0, none⟩) l := by
  intro _
  refine ⟨G, 0, rfl, h.lt, fun i hi => ?_⟩
  have h0 : (lvals l)[i * 3]? = some (.int .i64 (l.getD i (0, 0, 0)).1) := lvals_at l i 0 hi (by omega)
  have h1 : (lvals l)[i * 3 + 1]? = some (.int .i64 (l.getD i (0, 0, 0)).2.1) := lvals_at l i 1 hi (by omega)
  have h2 : (lvals l)[i * 3 + 2]? = some (.int .u64 ((l.getD i (0, 0, 0)).2.2 : Nat)) := lvals_at l i 2 hi (by omega)
  refine ⟨?_, ?_, ?_⟩
  · rw [h.c, Nat.zero_add, List.getElem?_toArray]; exact h0
  · rw [h.c, Nat.zero_add, List.getElem?_toArray]; exact h1
  · rw [h.c, Nat.zero_add, List.getElem?_toArray]; exact h2
theorem lvok_of {l : List Lv} (h : ∀ x ∈ l, 0 ≤ x.1 ∧ x.1 < 100 ∧ 0 ≤ x.2.1 ∧ x.2.1 < 100 ∧ x.2.2 < 100) : ∀ x ∈ l, lvOk x := by
  intro x hx
  have := h x hx
  exact ⟨⟨by omega, by omega⟩, ⟨by omega, by omega⟩, by omega⟩
def lit7 (w : World) : World := (((((((w.alloc (.cells (nv [10, 2, 2, 20, 21, 0, 0, 1, 80]).toArray 41)).alloc (.cells (nv [11, 0]).toArray 41)).alloc (.cells #[.slice (some ⟨w.heap.size, 0, none⟩) 9 9, .slice (some ⟨w.heap.size + 1, 0, none⟩) 2 2] 47)).alloc (.cells (lvals [(0, 0, 10), (0, 0, 11)]).toArray 43)).alloc (.cells (lvals [(0, 2, 20), (2, 2, 21), (1, 1, 0), (0, 0, 0)]).toArray 43)).alloc (.cells (lvals [(0, 1, 0), (1, 2, 80), (0, 0, 0)]).toArray 43)).alloc (.cells #[.slice (some ⟨w.heap.size + 1 + 1 + 1, 0, none⟩) 2 2, .slice (some ⟨w.heap.size + 1 + 1 + 1 + 1, 0, none⟩) 4 4, .slice (some ⟨w.heap.size + 1 + 1 + 1 + 1 + 1, 0, none⟩) 3 3] 40))
theorem lit_rows (w w1 : World) (hb : Below (lit7 w).heap.size (lit7 w) w1) : NRows w1 w1.heap.size (some ⟨w.heap.size + 1 + 1, 0, none⟩) recs0 ∧ LRows w1 w1.heap.size (some ⟨w.heap.size + 1 + 1 + 1 + 1 + 1 + 1, 0, none⟩) want0 ∧ Below w.heap.size w w1 := by
  unfold lit7 at hb
  have C0 := cel_new w (nv [10, 2, 2, 20, 21, 0, 0, 1, 80]).toArray 41
  have b0 := (Below.refl w.heap.size w).alloc (Nat.le_refl _) (.cells (nv [10, 2, 2, 20, 21, 0, 0, 1, 80]).toArray 41)
  have z0 : (w.alloc (.cells (nv [10, 2, 2, 20, 21, 0, 0, 1, 80]).toArray 41)).heap.size = w.heap.size + 1 := by simp
  have B0 := b0
  generalize w.alloc (.cells (nv [10, 2, 2, 20, 21, 0, 0, 1, 80]).toArray 41) = u0 at *
  have C1 := cel_new u0 (nv [11, 0]).toArray 41
  have b1 := (Below.refl u0.heap.size u0).alloc (Nat.le_refl _) (.cells (nv [11, 0]).toArray 41)
  have z1 : (u0.alloc (.cells (nv [11, 0]).toArray 41)).heap.size = w.heap.size + 1 + 1 := by simp [z0]
  rw [z0] at C1
  have C0 := C0.next b1
  have B1 := below_then B0 b1
  generalize u0.alloc (.cells (nv [11, 0]).toArray 41) = u1 at *
  have C2 := cel_new u1 #[.slice (some ⟨w.heap.size, 0, none⟩) 9 9, .slice (some ⟨w.heap.size + 1, 0, none⟩) 2 2] 47
  have b2 := (Below.refl u1.heap.size u1).alloc (Nat.le_refl _) (.cells #[.slice (some ⟨w.heap.size, 0, none⟩) 9 9, .slice (some ⟨w.heap.size + 1, 0, none⟩) 2 2] 47)
  have z2 : (u1.alloc (.cells #[.slice (some ⟨w.heap.size, 0, none⟩) 9 9, .slice (some ⟨w.heap.size + 1, 0, none⟩) 2 2] 47)).heap.size = w.heap.size + 1 + 1 + 1 := by simp [z1]
  rw [z1] at C2
  have C0 := C0.next b2
  have C1 := C1.next b2
  have B2 := below_then B1 b2
  generalize u1.alloc (.cells #[.slice (some ⟨w.heap.size, 0, none⟩) 9 9, .slice (some ⟨w.heap.size + 1, 0, none⟩) 2 2] 47) = u2 at *
  have C3 := cel_new u2 (lvals [(0, 0, 10), (0, 0, 11)]).toArray 43
  have b3 := (Below.refl u2.heap.size u2).alloc (Nat.le_refl _) (.cells (lvals [(0, 0, 10), (0, 0, 11)]).toArray 43)
  have z3 : (u2.alloc (.cells (lvals [(0, 0, 10), (0, 0, 11)]).toArray 43)).heap.size = w.heap.size + 1 + 1 + 1 + 1 := by simp [z2]
  rw [z2] at C3
  have C0 := C0.next b3
  have C1 := C1.next b3
  have C2 := C2.next b3
  have B3 := below_then B2 b3
  generalize u2.alloc (.cells (lvals [(0, 0, 10), (0, 0, 11)]).toArray 43) = u3 at *
  have C4 := cel_new u3 (lvals [(0, 2, 20), (2, 2, 21), (1, 1, 0), (0, 0, 0)]).toArray 43
  have b4 := (Below.refl u3.heap.size u3).alloc (Nat.le_refl _) (.cells (lvals [(0, 2, 20), (2, 2, 21), (1, 1, 0), (0, 0, 0)]).toArray 43)
  have z4 : (u3.alloc (.cells (lvals [(0, 2, 20), (2, 2, 21), (1, 1, 0), (0, 0, 0)]).toArray 43)).heap.size = w.heap.size + 1 + 1 + 1 + 1 + 1 := by simp [z3]
  rw [z3] at C4
  have C0 := C0.next b4
  have C1 := C1.next b4
  have C2 := C2.next b4
  have C3 := C3.next b4
  have B4 := below_then B3 b4
  generalize u3.alloc (.cells (lvals [(0, 2, 20), (2, 2, 21), (1, 1, 0), (0, 0, 0)]).toArray 43) = u4 at *
  have C5 := cel_new u4 (lvals [(0, 1, 0), (1, 2, 80), (0, 0, 0)]).toArray 43
  have b5 := (Below.refl u4.heap.size u4).alloc (Nat.le_refl _) (.cells (lvals [(0, 1, 0), (1, 2, 80), (0, 0, 0)]).toArray 43)
  have z5 : (u4.alloc (.cells (lvals [(0, 1, 0), (1, 2, 80), (0, 0, 0)]).toArray 43)).heap.size = w.heap.size + 1 + 1 + 1 + 1 + 1 + 1 := by simp [z4]
  rw [z4] at C5
  have C0 := C0.next b5
  have C1 := C1.next b5
  have C2 := C2.next b5
  have C3 := C3.next b5
  have C4 := C4.next b5
  have B5 := below_then B4 b5
  generalize u4.alloc (.cells (lvals [(0, 1, 0), (1, 2, 80), (0, 0, 0)]).toArray 43) = u5 at *
  have C6 := cel_new u5 #[.slice (some ⟨w.heap.size + 1 + 1 + 1, 0, none⟩) 2 2, .slice (some ⟨w.heap.size + 1 + 1 + 1 + 1, 0, none⟩) 4 4, .slice (some ⟨w.heap.size + 1 + 1 + 1 + 1 + 1, 0, none⟩) 3 3] 40
  have b6 := (Below.refl u5.heap.size u5).alloc (Nat.le_refl _) (.cells #[.slice (some ⟨w.heap.size + 1 + 1 + 1, 0, none⟩) 2 2, .slice (some ⟨w.heap.size + 1 + 1 + 1 + 1, 0, none⟩) 4 4, .slice (some ⟨w.heap.size + 1 + 1 + 1 + 1 + 1, 0, none⟩) 3 3] 40)
  have z6 : (u5.alloc (.cells #[.slice (some ⟨w.heap.size + 1 + 1 + 1, 0, none⟩) 2 2, .slice (some ⟨w.heap.size + 1 + 1 + 1 + 1, 0, none⟩) 4 4, .slice (some ⟨w.heap.size + 1 + 1 + 1 + 1 + 1, 0, none⟩) 3 3] 40)).heap.size = w.heap.size + 1 + 1 + 1 + 1 + 1 + 1 + 1 := by simp [z5]
  rw [z5] at C6
  have C0 := C0.next b6
  have C1 := C1.next b6
  have C2 := C2.next b6
  have C3 := C3.next b6
  have C4 := C4.next b6
  have C5 := C5.next b6
  have B6 := below_then B5 b6
  generalize u5.alloc (.cells #[.slice (some ⟨w.heap.size + 1 + 1 + 1, 0, none⟩) 2 2, .slice (some ⟨w.heap.size + 1 + 1 + 1 + 1, 0, none⟩) 4 4, .slice (some ⟨w.heap.size + 1 + 1 + 1 + 1 + 1, 0, none⟩) 3 3] 40) = u6 at *
  have C0 := C0.next hb
  have C1 := C1.next hb
  have C2 := C2.next hb
  have C3 := C3.next hb
  have C4 := C4.next hb
  have C5 := C5.next hb
  have C6 := C6.next hb
  refine ⟨?_, ?_, below_then B6 hb⟩
  · intro _
    refine ⟨_, 0, rfl, C2.lt, fun i hi => ?_⟩
    have h2 : i = 0 ∨ i = 1 := by have : i < 2 := hi; omega
    rcases h2 with rfl | rfl
    · exact ⟨_, 9, C2.c 0, nums_cel C0, by decide, by decide, by decide⟩
    · exact ⟨_, 2, C2.c 1, nums_cel C1, by decide, by decide, by decide⟩
  · refine ⟨[.slice (some ⟨w.heap.size + 1 + 1 + 1, 0, none⟩) 2 2, .slice (some ⟨w.heap.size + 1 + 1 + 1 + 1, 0, none⟩) 4 4, .slice (some ⟨w.heap.size + 1 + 1 + 1 + 1 + 1, 0, none⟩) 3 3], rfl, fun i hi => ?_, fun _ => ⟨_, 0, rfl, C6.lt, fun i hi => ?_⟩⟩
    · have h2 : i = 0 ∨ i = 1 ∨ i = 2 := by have : i < 3 := hi; omega
      rcases h2 with rfl | rfl | rfl
      · exact ⟨_, 2, rfl, lvs_cel C3, by decide, by decide, lvok_of (by decide)⟩
      · exact ⟨_, 4, rfl, lvs_cel C4, by decide, by decide, lvok_of (by decide)⟩
      · exact ⟨_, 3, rfl, lvs_cel C5, by decide, by decide, lvok_of (by decide)⟩
    · rw [C6.c, Nat.zero_add, ← List.getElem?_toArray]

theorem form_any (v : Value) (w : World) : Calls Try.prog 32 #[v] w fun e w' => e = .returned v ∧ w = w' := by
  go_enter Try.func32, Try.ntmps32
  go_wp2_with fail
  go_ret
  exact ⟨rfl, rfl⟩
def LinksPost (w : World) (e : Ending) (w' : World) : Prop := ∃ b, e = .returned (.slice (some ⟨b, 0, none⟩) 5 5) ∧ Fds w' w'.heap.size (some ⟨b, 0, none⟩) linksF ∧ Below w.heap.size w w'
theorem links_any (w : World) : Calls Try.prog 31 #[] w (LinksPost w) := by
  go_enter Try.func31, Try.ntmps31
  go_wp2_with fail
  refine (form_any _ _).mono ?_
  rintro e w1 ⟨rfl, rfl⟩
  go_wp2_with fail
  go_ret
  exact ⟨_, rfl, fds_cel (cel_new w (linksF.flatMap fdv).toArray 32), (Below.refl _ _).alloc (Nat.le_refl _) _⟩
theorem bshred (b g : Nat) (w : World) (hF : Fds w w.heap.size (some ⟨b, 0, none⟩) linksF) (hN : NRows w w.heap.size (some ⟨g, 0, none⟩) recs0) :
    Calls Try.prog 12 #[.slice (some ⟨b, 0, none⟩) 5 5, .slice (some ⟨g, 0, none⟩) 2 2] w fun e w' => ∃ C, e = .returned (.tuple #[.slice (some ⟨C, 0, none⟩) 3 3, .int .i64 0]) ∧ LRows w' w'.heap.size (some ⟨C, 0, none⟩) want0 ∧ Below w.heap.size w w' := by
  refine (shred_ok (some ⟨b, 0, none⟩) 5 linksF (some ⟨g, 0, none⟩) 2 recs0 w (by decide) (by decide) hF (by decide) (by decide) hN).mono ?_
  rw [links_shred]
  rintro e w' ⟨hb, C, rfl, h, -⟩
  exact ⟨C, rfl, h, hb⟩
theorem basm (b g : Nat) (w : World) (hF : Fds w w.heap.size (some ⟨b, 0, none⟩) linksF) (hN : LRows w w.heap.size (some ⟨g, 0, none⟩) want0) :
    Calls Try.prog 18 #[.slice (some ⟨b, 0, none⟩) 5 5, .slice (some ⟨g, 0, none⟩) 3 3] w fun e w' => ∃ a c, e = .returned (.tuple #[.slice a 2 c, .int .i64 0]) ∧ NRows w' w'.heap.size a recs0 ∧ Below w.heap.size w w' := by
  refine (asm_ok (some ⟨b, 0, none⟩) 5 linksF (some ⟨g, 0, none⟩) 3 want0 w (by decide) (by decide) hF (by decide) hN).mono ?_
  rw [links_asm]
  rintro e w' ⟨hb, a, c, rfl, h, -, -⟩
  exact ⟨a, c, rfl, h, hb⟩
theorem LRows.take {w : World} {B : Nat} {a : Option Addr} {l : List (List Lv)} (h : LRows w B a l) (n : Nat) : LRows w B a (l.take n) := by
  obtain ⟨news, h1, h2, h3⟩ := h
  have hg : ∀ i, i < n → (l.take n).getD i [] = l.getD i [] := fun i hi => by unfold List.getD; rw [List.getElem?_take, if_pos hi]
  have hv : ∀ i, i < n → (news.take n).getD i undef = news.getD i undef := fun i hi => by unfold List.getD; rw [List.getElem?_take, if_pos hi]
  refine ⟨news.take n, by simp [h1], fun i hi => ?_, fun hne => ?_⟩
  · rw [List.length_take] at hi
    rw [hg i (by omega), hv i (by omega)]
    exact h2 i (by omega)
  · obtain ⟨b, off, e, hlt, hc⟩ := h3 (fun e => hne (by rw [e]; simp))
    refine ⟨b, off, e, hlt, fun i hi => ?_⟩
    rw [List.length_take] at hi
    rw [hc i (by omega), List.getElem?_take, if_pos (by omega)]
theorem basm2 (b g : Nat) (w : World) (hF : Fds w w.heap.size (some ⟨b, 0, none⟩) linksF) (hN : LRows w w.heap.size (some ⟨g, 0, none⟩) want0) :
    Calls Try.prog 18 #[.slice (some ⟨b, 0, none⟩) 5 5, .slice (some ⟨g, 0, none⟩) 2 3] w fun e w' => e = .returned (.tuple #[.slice none 0 0, .int .i64 1]) ∧ Below w.heap.size w w' := by
  refine (asm_ok (some ⟨b, 0, none⟩) 5 linksF (some ⟨g, 0, none⟩) 3 (want0.take 2) w (by decide) (by decide) hF (by decide) (hN.take 2)).mono ?_
  rw [links_asm2]
  rintro e w' ⟨hb, -, rfl⟩
  exact ⟨rfl, hb⟩
theorem bleaves (b : Nat) (w : World) (hF : Fds w w.heap.size (some ⟨b, 0, none⟩) linksF) : Calls Try.prog 11 #[.slice (some ⟨b, 0, none⟩) 5 5] w fun e w' => e = .returned (.tuple #[.int .i64 3, .int .i64 0]) ∧ Below w.heap.size w w' := by
  have h := leaves_any (some ⟨b, 0, none⟩) 5 linksF w (by decide) (by decide) hF
  rw [links_lvn, links_check] at h
  exact h
theorem bsamec (a a' : Option Addr) (c c' : Nat) (w : World) (h1 : LRows w w.heap.size a want0) (h2 : LRows w w.heap.size a' want0) : Calls Try.prog 17 #[.slice a 3 c, .slice a' 3 c'] w (BoolPost true w) := by
  have h := csame_any a a' c c' want0 want0 w h1 h2 (by decide)
  rwa [decide_eq_true rfl] at h
theorem bsamer (a a' : Option Addr) (c c' : Nat) (w : World) (h1 : NRows w w.heap.size a recs0) (h2 : NRows w w.heap.size a' recs0) : Calls Try.prog 20 #[.slice a 2 c, .slice a' 2 c'] w (BoolPost true w) := by
  have h := rsame_any a a' c c' recs0 recs0 w h1 h2 (by decide)
  rwa [decide_eq_true rfl] at h
theorem bcheck (b : Nat) (w : World) (hF : Fds w w.heap.size (some ⟨b, 0, none⟩) [(0, 0)]) : Calls Try.prog 16 #[.slice (some ⟨b, 0, none⟩) 1 1] w (ErrPost 4 w) := by
  have h := shcheck_any (some ⟨b, 0, none⟩) 1 [(0, 0)] w (by decide) hF
  rw [one_check] at h
  exact h

set_option maxHeartbeats 4000000 in
set_option maxRecDepth 100000 in
theorem shbegun_any (w : World) : Calls Try.prog 15 #[] w (BoolPost true w) := by
  go_enter Try.func15, Try.ntmps15
  go_wp2_with fail
  refine (links_any _).mono ?_
  rintro e w1 ⟨b1, rfl, hF1, hb1⟩
  obtain ⟨hN1, hL1, hB1⟩ := lit_rows w w1 hb1
  clear hb1
  generalize w.heap.size + 1 + 1 + 1 + 1 + 1 + 1 = G6 at *
  generalize w.heap.size + 1 + 1 = G2 at *
  go_wp2_with fail
  refine (bshred b1 G2 w1 hF1 hN1).mono ?_
  rintro e w2 ⟨C, rfl, hC2, hb2⟩
  have hN2 := hN1.next hb2
  have hL2 := hL1.next hb2
  have hB2 := below_then hB1 hb2
  clear hF1 hN1 hL1 hB1 hb2
  go_wp2_with fail
  refine (links_any _).mono ?_
  rintro e w3 ⟨b3, rfl, hF3, hb3⟩
  have hN3 := hN2.next hb3
  have hL3 := hL2.next hb3
  have hC3 := hC2.next hb3
  have hB3 := below_then hB2 hb3
  clear hN2 hL2 hC2 hB2 hb3
  go_wp2_with fail
  refine (basm b3 G6 w3 hF3 hL3).mono ?_
  rintro e w4 ⟨ra, rc, rfl, hR4, hb4⟩
  have hN4 := hN3.next hb4
  have hL4 := hL3.next hb4
  have hC4 := hC3.next hb4
  have hB4 := below_then hB3 hb4
  clear hF3 hN3 hL3 hC3 hB3 hb4
  go_wp2_with fail
  refine (links_any _).mono ?_
  rintro e w5 ⟨b5, rfl, hF5, hb5⟩
  have hN5 := hN4.next hb5
  have hL5 := hL4.next hb5
  have hC5 := hC4.next hb5
  have hR5 := hR4.next hb5
  have hB5 := below_then hB4 hb5
  clear hN4 hL4 hC4 hR4 hB4 hb5
  go_wp2_with fail
  refine (bleaves b5 w5 hF5).mono ?_
  rintro e w6 ⟨rfl, hb6⟩
  have hN6 := hN5.next hb6
  have hL6 := hL5.next hb6
  have hC6 := hC5.next hb6
  have hR6 := hR5.next hb6
  have hB6 := below_then hB5 hb6
  clear hF5 hN5 hL5 hC5 hR5 hB5 hb6
  go_wp2_with fail
  have HL := Lib.hid (fun W (hb : Below w6.heap.size w6 W) => hL6.next hb)
  have hself := Below.refl w6.heap.size w6
  go_region_held3 (fun W => Below w6.heap.size w6 W)
    (first
      | assumption
      | exact (show Below w6.heap.size w6 _ by assumption).drew
      | exact below_then (by assumption) hb9)
    (first
      | (go_at_call 31; refine (links_any _).mono ?_; rintro e w9 ⟨b9, rfl, hF9, hb9⟩)
      | (go_at_call 18; refine (basm2 _ G6 _ ?_ ?_).mono ?_; exact hF9; exact HL.out _ (by assumption); rintro e w9 ⟨rfl, hb9⟩))
  have hS := show Below w6.heap.size w6 w9 by assumption
  have hN9 := hN6.next hS
  have hL9 := hL6.next hS
  have hC9 := hC6.next hS
  have hR9 := hR6.next hS
  have hB9 := below_then hB6 hS
  obtain ⟨W9, hW9⟩ : ∃ W, W = w9 := ⟨_, rfl⟩
  rw [← hW9] at hN9 hL9 hC9 hR9 hB9 ⊢
  clear hW9 hN6 hL6 hC6 hR6 hB6 HL hself hS
  go_wp2_with fail
  refine (bsamec _ _ _ _ W9 hC9 hL9).mono ?_
  rintro e w10 ⟨rfl, hb10⟩
  have hN10 := hN9.next hb10
  have hR10 := hR9.next hb10
  have hB10 := below_then hB9 hb10
  clear hN9 hL9 hC9 hR9 hB9 hb10
  go_wp2_with fail
  refine (bsamer _ _ _ _ w10 hR10 hN10).mono ?_
  rintro e w11 ⟨rfl, hb11⟩
  have hB11 := below_then hB10 hb11
  clear hN10 hR10 hB10 hb11
  go_wp2_with fail
  refine (form_any _ _).mono ?_
  rintro e w12 ⟨rfl, rfl⟩
  have hF := fds_cel (cel_new w11 (([(0, 0)] : List Sh.Fd).flatMap fdv).toArray 32)
  have hB12 := hB11.alloc hB11.size (.cells (([(0, 0)] : List Sh.Fd).flatMap fdv).toArray 32)
  go_wp2_with fail
  refine (bcheck _ _ hF).mono ?_
  rintro e w13 ⟨rfl, hb13⟩
  have hB13 := below_then hB12 hb13
  clear hF hB11 hB12 hb13
  go_wp2_with fail
  go_ret
  exact ⟨rfl, hB13⟩
end Go.Proofs.Ytjfkoledbegpfaa
