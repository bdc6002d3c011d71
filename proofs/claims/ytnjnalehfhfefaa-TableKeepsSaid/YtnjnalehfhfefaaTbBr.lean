/- The walk of birds. -/
import Derived.Test.YtnjnalehfhfefaaTbS
namespace Go.Proofs.Ytnjnalehfhfefaa
open Go.RowKit
set_option linter.unusedVariables false

def nId : List UInt8 := [105, 100]
def nName : List UInt8 := [110, 97, 109, 101]
def birdsT : Tb.T := ⟨[⟨nId, 1⟩, ⟨nName, 2⟩], [[⟨1, 1, []⟩, ⟨1, 2, []⟩, ⟨1, 9, []⟩], [⟨2, 0, [114, 111, 111, 107]⟩, C.null, ⟨2, 0, [119, 114, 101, 110]⟩]]⟩
theorem rowIn_lit (w : World) (b n : Nat) (l : List C.Cl) (h : w.heap[b]? = some (.cells (cv l).toArray 30 (0, 0))) (hn : l.length = n) (hm : n ≤ maxLen) (hok : ∀ x ∈ l, cOk x) : RowIn w w.heap.size (some ⟨b, 0, none⟩) n l := by
  subst hn
  refine ⟨Nat.le_refl _, hm, (fun h => by cases h), hok, ?_⟩
  intro _
  refine ⟨b, 0, rfl, lt_of_block h, fun i hi => ?_⟩
  have hc : ∀ j, w.cell? ⟨b, j, none⟩ = (cv l)[j]? := fun j => by simp only [World.cell?, h]; simp
  rw [Nat.zero_add, hc, hc, hc]
  exact cv_get l i hi

set_option maxHeartbeats 4000000 in
set_option maxRecDepth 100000 in
theorem birds_any (w : World) : Calls Try.prog 58 #[] w (fun e w' => ∃ ca da, e = .returned (tag ca 2 2 da 2 2) ∧ Tbl w' w'.heap.size ca 2 da 2 birdsT ∧ Below w.heap.size w w') := by
  have hR := two_new w 25 (.slice none 0 0) (.slice none 0 0)
  have hal : Below w.heap.size w (w.alloc (.cells #[.slice none 0 0, .slice none 0 0] 25)) := (Below.refl _ _).alloc (Nat.le_refl _) _
  obtain ⟨G, hG⟩ : ∃ G, G = w.heap.size := ⟨_, rfl⟩
  rw [← hG] at hR
  have hGw : w.heap.size ≤ G := by omega
  generalize hW : w.alloc (.cells #[.slice none 0 0, .slice none 0 0] 25) = W1 at *
  have HW := Lib.hid hW
  have HG := Lib.hid hG
  clear hW hG
  have HR := Lib.hid hR
  clear hR
  go_enter Try.func58, Try.ntmps58
  go_wp2_with fail
  rw [HW.out, ← HG.out]
  refine (column_any _ _ _).mono ?_
  rintro e w1 ⟨rfl, hb1⟩
  go_wp2_with fail
  refine (column_any _ _ _).mono ?_
  rintro e w2 ⟨rfl, hb2⟩
  have hb2 := below_then hb1 hb2
  obtain ⟨C1, hC1⟩ : ∃ C1, C1 = w2.alloc (.cells #[.string ⟨#[105, 100]⟩, .int .i64 1, .string ⟨#[110, 97, 109, 101]⟩, .int .i64 2] 27) := ⟨_, rfl⟩
  have kc : C1.heap[w2.heap.size]? = some (.cells #[.string ⟨#[105, 100]⟩, .int .i64 1, .string ⟨#[110, 97, 109, 101]⟩, .int .i64 2] 27 (0, 0)) := by rw [hC1]; exact heap_alloc_new _ _
  have hb3 : Below W1.heap.size W1 C1 := by rw [hC1]; exact hb2.alloc hb2.size _
  go_wp2_with fail
  rw [← hC1]
  clear hC1
  refine (tcnum_any _ _).mono ?_
  rintro e w3 ⟨rfl, hb4⟩
  have kc := (hb4.block _ (lt_of_block kc)).trans kc
  have hb4 := below_then hb3 hb4
  go_wp2_with fail
  refine (tcnum_any _ _).mono ?_
  rintro e w4 ⟨rfl, hb5⟩
  have kc := (hb5.block _ (lt_of_block kc)).trans kc
  have hb5 := below_then hb4 hb5
  go_wp2_with fail
  refine (tcnum_any _ _).mono ?_
  rintro e w5 ⟨rfl, hb6⟩
  have kc := (hb6.block _ (lt_of_block kc)).trans kc
  have hb6 := below_then hb5 hb6
  obtain ⟨C2, hC2⟩ : ∃ C2, C2 = w5.alloc (.cells #[.int .i64 1, .int .u64 1, .string ⟨#[]⟩, .int .i64 1, .int .u64 2, .string ⟨#[]⟩, .int .i64 1, .int .u64 9, .string ⟨#[]⟩] 30) := ⟨_, rfl⟩
  have kd : C2.heap[w5.heap.size]? = some (.cells #[.int .i64 1, .int .u64 1, .string ⟨#[]⟩, .int .i64 1, .int .u64 2, .string ⟨#[]⟩, .int .i64 1, .int .u64 9, .string ⟨#[]⟩] 30 (0, 0)) := by rw [hC2]; exact heap_alloc_new _ _
  have hs2 : Below w5.heap.size w5 C2 := by rw [hC2]; exact (Below.refl _ _).alloc (Nat.le_refl _) _
  have kc := (hs2.block _ (lt_of_block kc)).trans kc
  have hb7 := below_then hb6 hs2
  go_wp2_with fail
  rw [← hC2]
  clear hC2 hs2
  refine (tcells_any _ _).mono ?_
  rintro e w6 ⟨rfl, hb8⟩
  have kc := (hb8.block _ (lt_of_block kc)).trans kc
  have kd := (hb8.block _ (lt_of_block kd)).trans kd
  have hb8 := below_then hb7 hb8
  go_wp2_with fail
  refine (tctext_any _ _).mono ?_
  rintro e w7 ⟨rfl, hb9⟩
  have kc := (hb9.block _ (lt_of_block kc)).trans kc
  have kd := (hb9.block _ (lt_of_block kd)).trans kd
  have hb9 := below_then hb8 hb9
  go_wp2_with fail
  refine (tctext_any _ _).mono ?_
  rintro e w8 ⟨rfl, hb10⟩
  have kc := (hb10.block _ (lt_of_block kc)).trans kc
  have kd := (hb10.block _ (lt_of_block kd)).trans kd
  have hb10 := below_then hb9 hb10
  obtain ⟨C3, hC3⟩ : ∃ C3, C3 = w8.alloc (.cells #[.int .i64 2, .int .u64 0, .string ⟨#[114, 111, 111, 107]⟩, .int .i64 0, .int .u64 0, .string ⟨#[]⟩, .int .i64 2, .int .u64 0, .string ⟨#[119, 114, 101, 110]⟩] 30) := ⟨_, rfl⟩
  have ke : C3.heap[w8.heap.size]? = some (.cells #[.int .i64 2, .int .u64 0, .string ⟨#[114, 111, 111, 107]⟩, .int .i64 0, .int .u64 0, .string ⟨#[]⟩, .int .i64 2, .int .u64 0, .string ⟨#[119, 114, 101, 110]⟩] 30 (0, 0)) := by rw [hC3]; exact heap_alloc_new _ _
  have hs3 : Below w8.heap.size w8 C3 := by rw [hC3]; exact (Below.refl _ _).alloc (Nat.le_refl _) _
  have kc := (hs3.block _ (lt_of_block kc)).trans kc
  have kd := (hs3.block _ (lt_of_block kd)).trans kd
  have hb11 := below_then hb10 hs3
  go_wp2_with fail
  rw [← hC3]
  clear hC3 hs3
  refine (tcells_any _ _).mono ?_
  rintro e w9 ⟨rfl, hb12⟩
  have kc := (hb12.block _ (lt_of_block kc)).trans kc
  have kd := (hb12.block _ (lt_of_block kd)).trans kd
  have ke := (hb12.block _ (lt_of_block ke)).trans ke
  have hb12 := below_then hb11 hb12
  obtain ⟨C4, hC4⟩ : ∃ C4, C4 = w9.alloc (.cells #[.slice (some ⟨w5.heap.size, 0, none⟩) 3 3, .slice (some ⟨w8.heap.size, 0, none⟩) 3 3] 34) := ⟨_, rfl⟩
  have kf : C4.heap[w9.heap.size]? = some (.cells #[.slice (some ⟨w5.heap.size, 0, none⟩) 3 3, .slice (some ⟨w8.heap.size, 0, none⟩) 3 3] 34 (0, 0)) := by rw [hC4]; exact heap_alloc_new _ _
  have hs4 : Below w9.heap.size w9 C4 := by rw [hC4]; exact (Below.refl _ _).alloc (Nat.le_refl _) _
  have kc := (hs4.block _ (lt_of_block kc)).trans kc
  have kd := (hs4.block _ (lt_of_block kd)).trans kd
  have ke := (hs4.block _ (lt_of_block ke)).trans ke
  have hb13 := below_then hb12 hs4
  have hG4 := HR.out.next hb13
  have hw1 : W1.heap.size ≤ w2.heap.size := hb2.size
  have hw2 : W1.heap.size ≤ w5.heap.size := hb6.size
  have hw3 : W1.heap.size ≤ w8.heap.size := hb10.size
  have hw4 : W1.heap.size ≤ w9.heap.size := hb12.size
  have hGl : G < W1.heap.size := HR.out.lt
  obtain ⟨B1, hB1⟩ : ∃ B1, B1 = w2.heap.size := ⟨_, rfl⟩
  obtain ⟨B2, hB2⟩ : ∃ B2, B2 = w5.heap.size := ⟨_, rfl⟩
  obtain ⟨B3, hB3⟩ : ∃ B3, B3 = w8.heap.size := ⟨_, rfl⟩
  obtain ⟨B4, hB4⟩ : ∃ B4, B4 = w9.heap.size := ⟨_, rfl⟩
  have HC4 := Lib.hid hC4
  have q1 := hG4.s0 (.slice (some ⟨B1, 0, none⟩) 2 2)
  have q2 := q1.s1 (.slice (some ⟨B4, 0, none⟩) 2 2)
  have x0 := hG4.c0
  have f0 := hG4.free 0
  have x1 := q1.c1
  have f1 := q1.free 1
  have y0 := q2.c0
  have y1 := q2.c1
  have hbb := below_then hal hb13
  have HB := Lib.hid ((hbb.setCell (p := ⟨G, 0, none⟩) hGw (.slice (some ⟨B1, 0, none⟩) 2 2)).setCell (p := ⟨G, 1, none⟩) hGw (.slice (some ⟨B4, 0, none⟩) 2 2))
  have same : ∀ k, k ≠ G → ((C4.setCell ⟨G, 0, none⟩ (.slice (some ⟨B1, 0, none⟩) 2 2)).setCell ⟨G, 1, none⟩ (.slice (some ⟨B4, 0, none⟩) 2 2)).heap[k]? = C4.heap[k]? := fun k hk => by rw [heap_set _ _ _ _ hk, heap_set _ _ _ _ hk]
  have kc := (same _ (by omega)).trans kc
  have kd := (same _ (by omega)).trans kd
  have ke := (same _ (by omega)).trans ke
  have kf := (same _ (by omega)).trans kf
  rw [← hB1] at kc
  rw [← hB2] at kd
  rw [← hB3] at ke
  rw [← hB4, ← hB2, ← hB3] at kf
  have HT : Hid (Tbl ((C4.setCell ⟨G, 0, none⟩ (.slice (some ⟨B1, 0, none⟩) 2 2)).setCell ⟨G, 1, none⟩ (.slice (some ⟨B4, 0, none⟩) 2 2)) ((C4.setCell ⟨G, 0, none⟩ (.slice (some ⟨B1, 0, none⟩) 2 2)).setCell ⟨G, 1, none⟩ (.slice (some ⟨B4, 0, none⟩) 2 2)).heap.size (some ⟨B1, 0, none⟩) 2 (some ⟨B4, 0, none⟩) 2 birdsT) := by
    generalize (C4.setCell ⟨G, 0, none⟩ (.slice (some ⟨B1, 0, none⟩) 2 2)).setCell ⟨G, 1, none⟩ (.slice (some ⟨B4, 0, none⟩) 2 2) = Wf at *
    have cc : ∀ j, Wf.cell? ⟨B1, j, none⟩ = (#[.string ⟨#[105, 100]⟩, .int .i64 1, .string ⟨#[110, 97, 109, 101]⟩, .int .i64 2] : Array Value)[j]? := fun j => by simp [World.cell?, kc]
    have cf : ∀ j, Wf.cell? ⟨B4, j, none⟩ = (#[.slice (some ⟨B2, 0, none⟩) 3 3, .slice (some ⟨B3, 0, none⟩) 3 3] : Array Value)[j]? := fun j => by simp [World.cell?, kf]
    refine Lib.hid ⟨?_, ?_, ?_, ⟨Nat.le_refl _, by unfold maxLen; omega, fun h => by cases h⟩, ⟨Nat.le_refl _, by unfold maxLen; omega, fun h => by cases h⟩⟩
    · intro _
      refine ⟨B1, 0, rfl, lt_of_block kc, fun i hi => ?_⟩
      have : i = 0 ∨ i = 1 := by simp [birdsT] at hi; omega
      rcases this with rfl | rfl
      · exact ⟨cc 0, cc 1⟩
      · exact ⟨cc 2, cc 3⟩
    · intro _
      refine ⟨B4, 0, rfl, lt_of_block kf, fun i hi => ?_⟩
      have : i = 0 ∨ i = 1 := by simp [birdsT] at hi; omega
      rcases this with rfl | rfl
      · refine ⟨some ⟨B2, 0, none⟩, 3, cf 0, rowIn_lit Wf B2 3 _ kd rfl (by unfold maxLen; omega) ?_⟩
        intro x hx
        simp [birdsT] at hx
        rcases hx with rfl | rfl | rfl <;> (unfold cOk; simp [maxLen])
      · refine ⟨some ⟨B3, 0, none⟩, 3, cf 1, rowIn_lit Wf B3 3 _ ke rfl (by unfold maxLen; omega) ?_⟩
        intro x hx
        simp [birdsT] at hx
        rcases hx with rfl | rfl | rfl <;> (unfold cOk; simp [maxLen, C.null])
    · intro c hc
      simp [birdsT] at hc
      rcases hc with rfl | rfl <;> (unfold gOk; simp [maxLen, nId, nName])
  clear kc kd ke kf same q1 q2 hG4 hbb hs4 HC4
  subst hB1 hB2 hB3 hB4
  subst hC4
  go_wp2_with fail
  refine bodyPost_ret (v := .agg #[.slice (some ⟨w2.heap.size, 0, none⟩) 2 2, .slice (some ⟨w9.heap.size, 0, none⟩) 2 2]) (by simp [results, Try.results58, go_sem, y0, y1]) rfl ?_
  exact ⟨some ⟨w2.heap.size, 0, none⟩, some ⟨w9.heap.size, 0, none⟩, rfl, HT.out, HB.out⟩
end Go.Proofs.Ytnjnalehfhfefaa
