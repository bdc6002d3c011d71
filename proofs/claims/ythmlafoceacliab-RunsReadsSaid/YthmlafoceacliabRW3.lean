/- runs.add; the walk of runs.Of. -/
import Derived.Test.YthmlafoceacliabRW2
namespace Go.Proofs.Ythmlafoceacliab
open Go.RowKit
set_option linter.unusedVariables false

theorem rgetD_mem (l : List R.Run) (k : Nat) (hk : k < l.length) : l.getD k (0, 0) ∈ l := by
  simp only [List.getD, List.getElem?_eq_getElem hk, Option.getD_some]; exact List.getElem_mem hk
theorem add_any (base n : Nat) (m : Int) (l : List R.Run) (v : Value) (w : World) (hrow : RunRow base l v w) (hb : base ≤ w.heap.size) (hk : (l.length + 1) * 16 ≤ 140737488355328) (hl : R.bnd 1048576 l) (hm : 0 ≤ m ∧ m ≤ 1048576) :
    Calls Try.prog 19 #[v, .agg #[.int .u64 (n : Int), .int .i64 m]] w (AddPost base (R.addR l (n, m)) v w) := by
  by_cases h0 : l = []
  · subst h0
    exact add_nil base n m v w hrow hb
  · obtain ⟨k, hk'⟩ : ∃ k, l.length = k + 1 := ⟨l.length - 1, by have := List.length_pos_iff.2 h0; omega⟩
    have hrow' := hrow
    unfold RunRow at hrow'
    rw [hk'] at hrow'
    obtain ⟨g, cap, rfl⟩ : ∃ g cap, v = .slice (some ⟨g, 0, none⟩) (k + 1) cap := by
      rcases hrow'.2 with ⟨_, h⟩ | ⟨g, cap, cur, rfl, _⟩
      · omega
      · exact ⟨g, cap, rfl⟩
    have hkl : k < l.length := by rw [hk']; exact Nat.lt_succ_self k
    have hmem : l.getD k (0, 0) ∈ l := rgetD_mem l k hkl
    have hbk := hl _ hmem
    have hk2 : (k + 1 + 1) * 16 ≤ 140737488355328 := by rw [← hk']; exact hk
    clear hmem hl
    by_cases hq : (l.getD k (0, 0)).1 = n
    · have e : R.addR l (n, m) = l.set k (n, (l.getD k (0, 0)).2 + m) := by
        have e := R.addR_set l (n, m) h0 (by rw [hk', Nat.add_sub_cancel]; exact hq)
        rw [hk', Nat.add_sub_cancel, hq] at e
        exact e
      rw [e]
      exact add_set base n g k cap m l w hk' hk2 hrow hb hq hbk hm
    · have e : R.addR l (n, m) = l ++ [(n, m)] := R.addR_push l (n, m) (Or.inr (by rw [hk', Nat.add_sub_cancel]; exact hq))
      rw [e]
      exact add_push base n g k cap m l w hk' hk2 hrow hb hq

def ofR (l : List Nat) : List R.Run × Nat := if 64 < l.length then ([], 2) else (R.rle l, 0)

theorem bnd_rle (l : List Nat) : R.bnd l.length (R.rle l) := by
  intro p hp
  have hg := R.good_mem _ (R.good_rle l) p hp
  have hs := R.sum_rle l
  have : ∀ (t : List R.Run), (∀ q ∈ t, 1 ≤ q.2) → p ∈ t → p.2 ≤ R.sumR t := by
    intro t
    induction t with
    | nil => intro _ h; simp at h
    | cons q t ih =>
      intro h1 h2
      have hq := h1 q (by simp)
      have hn : 0 ≤ R.sumR t := by
        clear ih h2
        have h3 : ∀ q ∈ t, 1 ≤ q.2 := fun q hq => h1 q (by simp [hq])
        clear h1
        induction t with
        | nil => simp [R.sumR]
        | cons z t ih2 => have := h3 z (by simp); have := ih2 (fun q hq => h3 q (by simp [hq])); simp only [R.sumR]; omega
      simp only [R.sumR]
      rcases List.mem_cons.1 h2 with rfl | h2
      · omega
      · have := ih (fun q hq => h1 q (by simp [hq])) h2; omega
  have := this _ (R.good_mem _ (R.good_rle l)) hp
  omega
theorem rle_length_le (l : List Nat) : (R.rle l).length ≤ l.length := by
  have := R.join_length (l.map fun x => (x, (1 : Int)))
  simpa [R.rle] using this

set_option maxHeartbeats 400000 in
theorem of_many (a : Option Addr) (n c : Nat) (w : World) (h : 64 < n) :
    Calls Try.prog 8 #[.slice a n c] w (RunsPost ([], 2) w) := by
  go_enter Try.func8, Try.ntmps8
  go_wp2_with fail
  go_ret2
  exact ⟨none, 0, rfl, Runs.nil _ _ _, Below.refl _ _⟩
set_option maxHeartbeats 400000 in
theorem of_nil (a : Option Addr) (c : Nat) (w : World) :
    Calls Try.prog 8 #[.slice a 0 c] w (RunsPost ([], 0) w) := by
  go_enter Try.func8, Try.ntmps8
  go_wp2_with fail
  refine wp_loop_rounds 1 ?_
  rw [rounds_succ]
  go_wp2_with fail
  go_ret2
  exact ⟨none, 0, rfl, Runs.nil _ _ _, Below.refl _ _⟩

set_option maxHeartbeats 1000000 in
set_option maxRecDepth 100000 in
theorem of_some (b off c : Nat) (l : List Nat) (w : World) (hl : l.length ≤ 64) (hb : b < w.heap.size)
    (hc : ∀ i, i < l.length → w.cell? ⟨b, off + i, none⟩ = some (.int .u64 ((l.getD i 0 : Nat) : Int))) :
    Calls Try.prog 8 #[.slice (some ⟨b, off, none⟩) l.length c] w (RunsPost (R.rle l, 0) w) := by
  have HC := Lib.hid hc
  have HSN := Lib.hid (show ∀ k, k < l.length → R.rle (l.take (k + 1)) = R.addR (R.rle (l.take k)) (l.getD k 0, 1) from fun k hk => by
    rw [List.take_succ_eq_append_getElem hk, R.rle_snoc]; simp [List.getD, List.getElem?_eq_getElem hk])
  have HB := Lib.hid (show ∀ k, R.bnd 1048576 (R.rle (l.take k)) ∧ (R.rle (l.take k)).length ≤ 64 from fun k =>
    ⟨fun p hp => by have := bnd_rle (l.take k) p hp; simp only [List.length_take] at this; omega, by have := rle_length_le (l.take k); simp only [List.length_take] at this; omega⟩)
  have HAL := Lib.hid (show R.rle (l.take l.length) = R.rle l by rw [List.take_length])
  clear hc
  go_enter Try.func8, Try.ntmps8
  go_wp2_with fail
  go_loopw [4, 6, 12] (fun v _ i wr => ∃ k : Nat, k ≤ l.length ∧ i = .int .i64 k ∧ RunRow w.heap.size (R.rle (l.take k)) v wr ∧ Below w.heap.size w wr) (fun _ _ i _ => l.length - (intOf i).toNat)
  case atStart => exact ⟨0, by omega, rfl, ⟨rfl, Or.inl ⟨rfl, rfl⟩⟩, Below.refl _ _⟩
  case round =>
    obtain ⟨k, hk, rfl, hrow, hbw⟩ := hrel
    by_cases hlt : k < l.length
    · have hcell : wr.cell? ⟨b, off + k, none⟩ = some (.int .u64 ((l.getD k 0 : Nat) : Int)) := (hbw.cell (p := ⟨b, off + k, none⟩) hb).trans (HC.out k hlt)
      have HS := Lib.hid (HSN.out k hlt)
      obtain ⟨hb1, hb2⟩ := HB.out k
      generalize l.getD k 0 = x at *
      generalize R.rle (l.take k) = xs at *
      have HADD := Lib.hid (fun v hrow => add_any w.heap.size x 1 xs v wr hrow hbw.size (by omega) hb1 (by omega))
      have HROW := Lib.hid hrow
      clear hb1 hrow
      go_wp2_with fail
      refine (HADD.out _ HROW.out).mono ?_
      rintro e w2 ⟨v', rfl, hrow2, hgr⟩
      go_wp2_with fail
      have hbw2 : Below w.heap.size w w2 := hbw.grown hgr hbw.size (fun k hk => (HROW.out.lt k hk).1)
      refine ⟨⟨k + 1, by omega, by go_num, ?_, hbw2⟩, by simp [intOf]; omega⟩
      rw [HS.out]; exact hrow2
    · obtain rfl : k = l.length := by omega
      rw [HAL.out] at hrow
      obtain ⟨a, c', rfl, hnum⟩ := runRow_slice hrow
      generalize R.rle l = xs at *
      go_wp2_with fail
      go_ret2
      exact ⟨a, c', rfl, hnum, hbw⟩

theorem of_any (a : Option Addr) (c : Nat) (l : List Nat) (w : World) (hu : Nums w w.heap.size a l) :
    Calls Try.prog 8 #[.slice a l.length c] w (RunsPost (ofR l) w) := by
  unfold ofR
  by_cases h : 64 < l.length
  · rw [if_pos h]; exact of_many a _ c w h
  rw [if_neg h]
  by_cases hn : l = []
  · subst hn; exact of_nil a c w
  · obtain ⟨b, off, rfl, hb, hc⟩ := hu hn
    exact of_some b off c l w (by omega) hb hc
end Go.Proofs.Ythmlafoceacliab
