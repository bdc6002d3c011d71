/- What the walk of sweep wants: lists half done, the map half filled. -/
import Derived.Test.YtmjcdjekakaigaaFsLd
namespace Go.Proofs.Ytmjcdjekakaigaa.Fs
open Go.RowKit Go.Maps Go.WideMaps
set_option linter.unusedVariables false

def mixF (F : En → En) (l : List En) (k : Nat) : List En := (l.take k).map F ++ l.drop k
theorem mixF_zero (F : En → En) (l : List En) : mixF F l 0 = l := by simp [mixF]
theorem mixF_all (F : En → En) (l : List En) : mixF F l l.length = l.map F := by simp [mixF]
theorem mixF_len (F : En → En) (l : List En) (k : Nat) (hk : k ≤ l.length) : (mixF F l k).length = l.length := by simp [mixF]; omega
theorem mixF_at (F : En → En) (l : List En) (k : Nat) (hk : k < l.length) : (mixF F l k).getD k nulE = l.getD k nulE := by
  unfold mixF
  rw [getD_at _ _ _ (by simp; omega), getD_at _ _ _ hk, List.getElem_append_right (by simp; omega)]
  simp [Nat.min_eq_left (Nat.le_of_lt hk)]
theorem mixF_set (F : En → En) (l : List En) (k : Nat) (hk : k < l.length) : (mixF F l k).set k (F (l.getD k nulE)) = mixF F l (k + 1) := by
  unfold mixF
  have hl : ((l.take k).map F).length = k := by simp; omega
  rw [List.set_append_right _ _ (by omega), hl, Nat.sub_self, drop_cons l nulE k hk, List.set_cons_zero, take_snoc l nulE k hk, List.map_append, List.append_assoc]
  rfl
/-- an entry by the nodes that stay -/
def movE (d s : List En) (e : En) : En := ⟨e.name, (fewer d s e.node.toNat : Nat)⟩
theorem moved_map (d s l : List En) : moved d s l = l.map (movE d s) := rfl
theorem fewer_le (d s : List En) (i : Nat) : fewer d s i ≤ i := by
  unfold fewer
  have := List.length_filter_le (fun (j : Nat) => named d s (j : Int)) (List.range i)
  simpa using this
theorem keepN_len (d s : List En) (l : List Nd) (k : Nat) : (keepN d s l k).length = fewer d s k := by simp [keepN, fewer]
theorem keepN_yes {d s : List En} (l : List Nd) {k : Nat} (h : named d s (k : Int) = true) : keepN d s l (k + 1) = keepN d s l k ++ [l.getD k nulN] := by
  unfold keepN
  rw [List.range_succ, List.filter_append, List.map_append, List.filter_cons_of_pos (by simpa using h)]; rfl
theorem keepN_no {d s : List En} (l : List Nd) {k : Nat} (h : named d s (k : Int) = false) : keepN d s l (k + 1) = keepN d s l k := by
  unfold keepN
  rw [List.range_succ, List.filter_append, List.map_append, List.filter_cons_of_neg (by rw [h]; simp)]; simp
theorem fewer_yes {d s : List En} {k : Nat} (h : named d s (k : Int) = true) : fewer d s (k + 1) = fewer d s k + 1 := by
  have := congrArg List.length (keepN_yes (d := d) (s := s) [] h)
  simpa [keepN_len] using this
theorem fewer_no {d s : List En} {k : Nat} (h : named d s (k : Int) = false) : fewer d s (k + 1) = fewer d s k := by
  have := congrArg List.length (keepN_no (d := d) (s := s) [] h)
  simpa [keepN_len] using this
/-- the map so far: who is named has a key, and all below k their places -/
structure Half (d s : List En) (D : D1) (k : Nat) : Prop where
  map : Maps.IsMap D
  has : ∀ i : Int, Maps.has D (kl i) = named d s i
  at_ : ∀ j : Nat, j < k → named d s (j : Int) = true → D.atKey (kl (j : Int)) z0 = .lit (.int .i64 ((fewer d s j : Nat) : Int))
theorem Half.start (d s : List En) : Half d s (Maps.setOf z0 (accOf (d ++ s))) 0 where
  map := (Maps.tidy_setOf z0 _ (key_ok _)).isMap
  has := fun i => by rw [has_acc, List.any_append]; rfl
  at_ := fun j hj => absurd hj (by omega)
theorem Half.no {d s : List En} {D : D1} {k : Nat} (h : Half d s D k) (hn : named d s (k : Int) = false) : Half d s D (k + 1) :=
  ⟨h.map, h.has, fun j hj hj2 => h.at_ j (by
    by_cases e : j = k
    · rw [e, hn] at hj2; cases hj2
    · omega) hj2⟩
theorem Half.yes {d s : List En} {D : D1} {k : Nat} (h : Half d s D k) (hn : named d s (k : Int) = true) : Half d s (D.put (kl (k : Int)) (.lit (.int .i64 ((fewer d s k : Nat) : Int)))) (k + 1) where
  map := h.map.put _ _
  has := fun i => by
    by_cases e : i = (k : Int)
    · rw [e, Maps.has_put_same h.map (by trivial), hn]
    · rw [Maps.has_put_other (fun e2 => e (by unfold kl at e2; injection e2)), h.has]
  at_ := fun j hj hj2 => by
    by_cases e : j = k
    · rw [e]; exact Maps.atKey_put_same h.map (by trivial) _ _
    · rw [Maps.atKey_put_other (fun e2 => e (by unfold kl at e2; injection e2 with _ e2; omega))]
      exact h.at_ j (by omega) hj2
theorem named_in {d s l : List En} {e : En} (hl : l = d ∨ l = s) (he : e ∈ l) : named d s e.node = true := by
  unfold named
  rcases hl with h | h
  · rw [List.any_eq_true.2 ⟨e, by rw [← h]; exact he, by simp⟩]; rfl
  · rw [(List.any_eq_true (l := s)).2 ⟨e, by rw [← h]; exact he, by simp⟩]; simp
theorem Half.get {d s : List En} {D : D1} {n : Nat} (h : Half d s D n) {e : En} {l : List En} (hl : l = d ∨ l = s) (he : e ∈ l) (hr : 0 ≤ e.node ∧ e.node < (n : Int)) : D.atKey (kl e.node) z0 = .lit (.int .i64 (movE d s e).node) := by
  have := h.at_ e.node.toNat (by omega) (by rw [Int.toNat_of_nonneg hr.1]; exact named_in hl he)
  rw [Int.toNat_of_nonneg hr.1] at this
  exact this
theorem map_ne {w : World} {M n m B sz : Nat} {D : D1} {e : TypeId} {v : Value} {xs : List Value} (h : MapI w M n D) (hr : w.ownsRow B e sz v m xs) : ∀ g, v.ownBlock = some g → g ≠ M := by
  intro g hg e2
  obtain ⟨c, fz, k1⟩ := Lib.ownsRow_kind hr g hg
  obtain ⟨es, clock, hb, _⟩ := h
  rw [e2, hb] at k1
  cases k1
theorem nds_one (w : World) (x : Nd) : Nds (w.alloc (.cells #[.string (str x.live), .string (str x.syn)] 49)) (w.alloc (.cells #[.string (str x.live), .string (str x.syn)] 49)).heap.size (some ⟨w.heap.size, 0, none⟩) [x] := fun _ => by
  have hB := bk_new w 49 #[.string (str x.live), .string (str x.syn)]
  refine ⟨w.heap.size, 0, rfl, hB.lt, fun i hi => ?_⟩
  obtain rfl : i = 0 := by simpa using hi
  exact hB.two
theorem ens_one (w : World) (x : En) : Ens (w.alloc (.cells #[.string (str x.name), .int .i64 x.node] 47)) (w.alloc (.cells #[.string (str x.name), .int .i64 x.node] 47)).heap.size (some ⟨w.heap.size, 0, none⟩) [x] := fun _ => by
  have hB := bk_new w 47 #[.string (str x.name), .int .i64 x.node]
  refine ⟨w.heap.size, 0, rfl, hB.lt, fun i hi => ?_⟩
  obtain rfl : i = 0 := by simpa using hi
  exact hB.two
end Go.Proofs.Ytmjcdjekakaigaa.Fs
