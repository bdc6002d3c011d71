/- The walk of slices.Delete (one element) of entries. -/
import Derived.Test.YtmjcdjekakaigaaFsCr
import Derived.Deep.RegionLaw
import Derived.Lib.SliceRun
import Derived.ArgAppend
namespace Go.Proofs.Ytmjcdjekakaigaa.Fs
open Go.RowKit
set_option linter.unusedVariables false

theorem row_setCells {B : Nat} {e : TypeId} {sz g n c : Nat} : ∀ (vs : List Value) (o : Nat) (w : World) (xs : List Value), w.ownsRow B e sz (.slice (some ⟨g, 0, none⟩) n c) n xs → o + vs.length ≤ xs.length →
    (w.setCells g o vs).ownsRow B e sz (.slice (some ⟨g, 0, none⟩) n c) n (xs.take o ++ vs ++ xs.drop (o + vs.length))
  | [], o, w, xs, h, hl => by simpa [World.setCells] using h
  | v :: vs, o, w, xs, h, hl => by
    simp only [List.length_cons] at hl
    have h1 := (h.stored o v).1
    have h2 := row_setCells vs (o + 1) _ _ h1 (by rw [List.length_set]; omega)
    have e1 : (xs.set o v).take (o + 1) = xs.take o ++ [v] := by
      rw [List.take_succ_eq_append_getElem (by rw [List.length_set]; omega), List.take_set_of_le (Nat.le_refl _), List.getElem_set_self]
    have e2 : (xs.set o v).drop (o + 1 + vs.length) = xs.drop (o + 1 + vs.length) := by rw [List.drop_set_of_lt (by omega)]
    rw [e1, e2] at h2
    simp only [World.setCells, List.length_cons]
    rw [show o + (vs.length + 1) = o + 1 + vs.length by omega]
    simpa using h2
theorem row_cut {B : Nat} {e : TypeId} {sz g n m c : Nat} {w : World} {xs : List Value} (h : w.ownsRow B e sz (.slice (some ⟨g, 0, none⟩) n c) n xs) (hm : m ≤ n) : w.ownsRow B e sz (.slice (some ⟨g, 0, none⟩) m c) m (xs.take (m * sz)) := by
  have hl := h.1
  have hms : m * sz ≤ n * sz := Nat.mul_le_mul_right _ hm
  refine ⟨by rw [List.length_take]; omega, ?_⟩
  rcases h.2 with ⟨e1, _⟩ | ⟨g', cap, cur, e1, e2, e3, e4, e5, e6, e7⟩
  · cases e1
  · injection e1 with x1 x2 x3
    injection x1 with x1
    injection x1 with x1 _
    subst x1; subst x3
    exact Or.inr ⟨g, c, cur, rfl, e2, e3, by omega, e5, e6, by rw [← e7, List.take_take, Nat.min_eq_left hms]⟩
/-- the block as it stands behind an element's deletion -/
theorem row_del {B : Nat} {e : TypeId} {sz g n c q : Nat} {w : World} {xs zs : List Value} (h : w.ownsRow B e sz (.slice (some ⟨g, 0, none⟩) n c) n xs) (hq : q < n) (hz : zs.length = sz) :
    ((w.setCells g (q * sz) (xs.drop ((q + 1) * sz))).setCells g ((n - 1) * sz) zs).ownsRow B e sz (.slice (some ⟨g, 0, none⟩) (n - 1) c) (n - 1) (xs.take (q * sz) ++ xs.drop ((q + 1) * sz)) := by
  have hl := h.1
  have m1 : (q + 1) * sz = q * sz + sz := by rw [Nat.add_mul, Nat.one_mul]
  have m2 : n * sz = (n - 1) * sz + sz := by
    have : n = (n - 1) + 1 := by omega
    rw [this, Nat.add_mul, Nat.one_mul]; simp
  have m3 : q * sz ≤ (n - 1) * sz := Nat.mul_le_mul_right _ (by omega)
  have hd : (xs.drop ((q + 1) * sz)).length = n * sz - (q + 1) * sz := by rw [List.length_drop, hl]
  have h1 := row_setCells (xs.drop ((q + 1) * sz)) (q * sz) w xs h (by rw [hd]; omega)
  have h2 := row_setCells zs ((n - 1) * sz) _ _ h1 (by rw [h1.1, hz]; omega)
  have h3 := row_cut h2 (m := n - 1) (by omega)
  have hA : (xs.take (q * sz) ++ xs.drop ((q + 1) * sz)).length = (n - 1) * sz := by rw [List.length_append, List.length_take, hd]; omega
  have e1 : (((xs.take (q * sz) ++ xs.drop ((q + 1) * sz) ++ xs.drop (q * sz + (xs.drop ((q + 1) * sz)).length)).take ((n - 1) * sz) ++ zs ++ (xs.take (q * sz) ++ xs.drop ((q + 1) * sz) ++ xs.drop (q * sz + (xs.drop ((q + 1) * sz)).length)).drop ((n - 1) * sz + zs.length)).take ((n - 1) * sz)) = xs.take (q * sz) ++ xs.drop ((q + 1) * sz) := by
    generalize xs.take (q * sz) ++ xs.drop ((q + 1) * sz) = A at *
    rw [List.take_append_of_le_length (show (n - 1) * sz ≤ A.length by omega), List.take_of_length_le (show A.length ≤ (n - 1) * sz by omega), List.append_assoc, List.take_append_of_le_length (show (n - 1) * sz ≤ A.length by omega), List.take_of_length_le (show A.length ≤ (n - 1) * sz by omega)]
  rw [e1] at h3
  exact h3
theorem setCells_other (g : Nat) : ∀ (vs : List Value) (o : Nat) (w : World) (k : Nat), k ≠ g → (w.setCells g o vs).heap[k]? = w.heap[k]?
  | [], _, _, _, _ => rfl
  | v :: vs, o, w, k, hk => by
    rw [World.setCells, setCells_other g vs (o + 1) _ k hk]
    exact heap_set _ _ _ _ hk
theorem size_setCells' (g : Nat) : ∀ (vs : List Value) (o : Nat) (w : World), (w.setCells g o vs).heap.size = w.heap.size
  | [], _, _ => rfl
  | v :: vs, o, w => by rw [World.setCells, size_setCells' g vs (o + 1)]; simp
theorem below_setCells' {B g : Nat} (hg : B ≤ g) : ∀ (vs : List Value) (o : Nat) (a w : World), Below B a w → Below B a (w.setCells g o vs)
  | [], _, _, _, h => h
  | v :: vs, o, a, w, h => by
    rw [World.setCells]
    exact below_setCells' hg vs (o + 1) a _ (h.setCell hg v)
theorem run_clear_one {P : Program} (w : World) (t e ty : TypeId) (z : Value) (ht : P.underlying t = some (.slice e)) (hv : ∀ w, (zeroValue e).run P w = .ok z w) (h1 : ∀ v ∈ z.cells.toList, v.oneCell' = true) (b o c : Nat)
    (hc : ∀ j, j < z.cells.size → (w.cell? ⟨b, o + j, none⟩).isSome = true) (hf : ∀ j, j < z.cells.size → w.frozen? ⟨b, o + j, none⟩ = false) :
    (Builtin.clear_ #[t] ty #[.slice (some ⟨b, o, none⟩) 1 c]).run P w = .ok (.tuple #[]) (w.setCells b o z.cells.toList) := by
  have hzc : (Builtin.zeroCells z.cells 1).toList = z.cells.toList := by
    apply List.ext_getElem
    · simp [Builtin.zeroCells]
    · intro i h1 h2
      simp only [Array.length_toList] at h2
      simp [Builtin.zeroCells, Nat.mod_eq_of_lt h2, h2]
  have hst := run_storeCells_cells (P := P) b o z.cells.toList 0 w (by simpa using hc) (by simpa using hf) h1
  simp [Builtin.clear_, run_underlying ht, hv, hzc, hst]
def DelPost (B : Nat) (P : Value → World → Prop) (g : Nat) (w : World) (e : Ending) (w' : World) : Prop := ∃ v, e = .returned v ∧ P v w' ∧ (∀ k, k ≠ g → w'.heap[k]? = w.heap[k]?) ∧ w.heap.size = w'.heap.size ∧ v.ownBlock = some g ∧ (B ≤ g → Below B w w')

set_option maxHeartbeats 4000000 in
set_option maxRecDepth 100000 in
theorem delE_any (B g n c q : Nat) (xs : List Value) (w : World) (h : w.ownsRow B 47 2 (.slice (some ⟨g, 0, none⟩) n c) n xs) (hq : q < n) (hn : n ≤ 1048576) (hx1 : ∀ v ∈ xs, v.oneCell' = true) :
    Calls Try.prog 56 #[.slice (some ⟨g, 0, none⟩) n c, .int .i64 q, .int .i64 ((q : Int) + 1)] w (DelPost B (fun v w' => v = .slice (some ⟨g, 0, none⟩) (n - 1) c ∧ w'.ownsRow B 47 2 v (n - 1) (xs.take (q * 2) ++ xs.drop ((q + 1) * 2))) g w) := by
  obtain ⟨i0, hi0, hz0, hz1, hz2⟩ := info_parts info_en
  have hxl := h.1
  obtain ⟨hnc, hcm⟩ : n ≤ c ∧ c ≤ maxLen := by
    rcases h.2 with ⟨e, _⟩ | ⟨g', cap, cur, e, _, _, e4, e5, _⟩
    · cases e
    · injection e with _ _ e3
      subst e3
      exact ⟨e4, e5⟩
  unfold maxLen at hcm
  have hd : w.drew.ownsRow B 47 2 (.slice (some ⟨g, 0, none⟩) n c) n xs := h
  obtain ⟨news, hnews⟩ : ∃ news, news = xs.drop ((q + 1) * 2) := ⟨_, rfl⟩
  have hlen : news.length = (n - (q + 1)) * 2 := by rw [hnews, List.length_drop, hxl]; omega
  have hone : ∀ j, j < xs.length → ∃ v, xs[j]? = some v ∧ v.oneCell' = true := fun j hj => by
    have := hx1
    exact ⟨xs[j], List.getElem?_eq_getElem hj, this _ (List.getElem_mem hj)⟩
  obtain ⟨A, hA, hsrc⟩ : ∃ A : Addr, (if c = q + 1 then (some ⟨g, 0, none⟩ : Option Addr) else some ⟨g, (q + 1) * 2, none⟩) = some A ∧ Hid (∀ t u, news[t]? = some u → w.drew.cell? (A.add t) = some u) := by
    by_cases hc : c = q + 1
    · refine ⟨⟨g, 0, none⟩, by simp [hc], fun t u hu => ?_⟩
      have h0 : news.length = 0 := by rw [hlen]; omega
      rw [List.length_eq_zero_iff.1 h0] at hu
      simp at hu
    · refine ⟨⟨g, (q + 1) * 2, none⟩, by simp [hc], fun t u hu => ?_⟩
      have ht : t < news.length := (List.getElem?_eq_some_iff.1 hu).1
      rw [hlen] at ht
      have hadd : (⟨g, (q + 1) * 2, none⟩ : Addr).add t = ⟨g, (q + 1) * 2 + t, none⟩ := by unfold Addr.add; split <;> simp_all
      rw [hadd, hd.cellAt _ (by omega), ← hu, hnews, List.getElem?_drop]
      all_goals first | rfl | (congr 1; omega)
  have s1 : Hid (news.length = (n - (q + 1)) * 2) := hlen
  have s2 : Hid (∀ u ∈ news, u.oneCell' = true) := by
    intro u hu
    rw [hnews] at hu
    obtain ⟨j, hj, rfl⟩ := List.mem_iff_getElem.1 (List.mem_of_mem_drop hu)
    obtain ⟨v, h1, h2⟩ := hone j hj
    rw [List.getElem?_eq_getElem hj] at h1
    rw [Option.some.inj h1]; exact h2
  have s3 : Hid (∀ t, t < news.length → (w.drew.cell? ⟨g, 0 + q * 2 + t, none⟩).isSome = true ∧ w.drew.frozen? ⟨g, 0 + q * 2 + t, none⟩ = false) := by
    intro t ht
    rw [hlen] at ht
    refine ⟨?_, hd.frozenAt _⟩
    rw [hd.cellAt _ (by omega), List.getElem?_eq_getElem (by omega)]; rfl
  obtain ⟨W1, hW1⟩ : ∃ W1, W1 = w.drew.setCells g (0 + q * 2) news := ⟨_, rfl⟩
  have hR1 : W1.ownsRow B 47 2 (.slice (some ⟨g, 0, none⟩) n c) n (xs.take (q * 2) ++ news ++ xs.drop (q * 2 + news.length)) := by
    rw [hW1, Nat.zero_add]; exact row_setCells news (q * 2) _ _ hd (by rw [hlen]; omega)
  obtain ⟨W2, hW2⟩ : ∃ W2, W2 = W1.setCells g ((n - 1) * 2) ([.string ByteArray.empty, .int .i64 0] : List Value) := ⟨_, rfl⟩
  have hcl : ∀ ty, (Builtin.clear_ #[23] ty #[.slice (some ⟨g, (n - 1) * 2, none⟩) 1 (c - (n - 1))]).run Try.prog W1 = .ok (.tuple #[]) W2 := fun ty => by
    rw [hW2]
    exact run_clear_one W1 23 47 ty (.agg #[.string ByteArray.empty, .int .i64 0]) Try.underlying23 (fun w => by kernel_rfl) (by simp [Value.cells, Value.oneCell']) g ((n - 1) * 2) (c - (n - 1))
      (fun j hj => by simp [Value.cells] at hj; rw [hR1.cellAt _ (by omega), List.getElem?_eq_getElem (by rw [hR1.1]; omega)]; rfl)
      (fun j hj => hR1.frozenAt _)
  have HFIN : Hid (W2.ownsRow B 47 2 (.slice (some ⟨g, 0, none⟩) (n - 1) c) (n - 1) (xs.take (q * 2) ++ xs.drop ((q + 1) * 2)) ∧ (∀ k, k ≠ g → W2.heap[k]? = w.heap[k]?) ∧ w.heap.size = W2.heap.size ∧ (B ≤ g → Below B w W2)) := by
    rw [hW2, hW1, hnews, Nat.zero_add]
    exact ⟨row_del hd hq (by rfl), fun k hk => by rw [setCells_other _ _ _ _ _ hk, setCells_other _ _ _ _ _ hk]; rfl, by rw [size_setCells', size_setCells']; rfl, fun hB => below_setCells' hB _ _ _ _ (below_setCells' hB _ _ _ _ (Below.refl _ _).drew)⟩
  have hW : Hid (W1 = w.drew.setCells g (0 + q * 2) news) := hW1
  have hqc : q ≤ c := by omega
  have hq1 : q + 1 ≤ c := by omega
  have hsum : q + (n - (q + 1)) = n - 1 := by omega
  have i1 : (0 : Int) ≤ (q : Int) + 1 := by omega
  have i2 : (q : Int) + 1 ≤ (n : Int) := by omega
  have hn1 : n - (n - 1) = 1 := by omega
  have hcn : ¬ c = n - 1 := by omega
  have hN1 : n - 1 ≤ n := by omega
  have hne : ((q : Int) == (q : Int) + 1) = false := by rw [beq_eq_false_iff_ne]; omega
  clear hW1 hW2 hR1 h hd hnews hlen hone hxl
  generalize hN : n - 1 = N at *
  go_enter Try.func56, Try.ntmps56
  go_wp2_with fail
  go_region_law (refine step_append_room rfl (.tmp 22) (.tmp 25) 23 rfl 47 i0 2 Try.underlying23 hi0 hz1 g 0 q c (by simp [Act.eval, Act.put]) A (n - (q + 1)) (c - (q + 1)) news (by simp [Act.eval, Act.put]) s1.out hsrc.out s2.out (by omega) s3.out ?_; rw [← hW.out])
  go_wp2_with fail
  go_ret
  exact ⟨_, rfl, ⟨by first | rfl | rw [hsum], by first | exact HFIN.out.1 | (rw [hsum]; exact HFIN.out.1)⟩, HFIN.out.2.1, HFIN.out.2.2.1, rfl, HFIN.out.2.2.2⟩
end Go.Proofs.Ytmjcdjekakaigaa.Fs
