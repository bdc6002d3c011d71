/- Expanded once more: what it hands back has no capacity where it is nil. -/
import Derived.Test.YthmlafoceacliabRW1
namespace Go.Proofs.Ythmlafoceacliab
open Go.RowKit
set_option linter.unusedVariables false

def NumsOnly2 (l : List Nat) (w : World) (e : Ending) (w' : World) : Prop :=
  ∃ a c, e = .returned (.slice a l.length c) ∧ Nums w' w'.heap.size a l ∧ (a = none → c = 0) ∧ Below w.heap.size w w'
theorem numRow_nums2 {B : Nat} {xs : List Nat} {v : Value} {w : World} (h : NumRow B xs v w) : ∃ a c, v = .slice a xs.length c ∧ Nums w w.heap.size a xs ∧ (a = none → c = 0) := by
  have h' := h
  unfold NumRow at h
  obtain ⟨a, c, hv, hn⟩ := numRow_nums h'
  refine ⟨a, c, hv, hn, fun ha => ?_⟩
  rcases h.2 with ⟨e, h0⟩ | ⟨g, cap, cur, e, _⟩
  · rw [hv] at e; injection e
  · rw [hv, ha] at e; injection e with e; cases e

set_option maxHeartbeats 1000000 in
set_option maxRecDepth 100000 in
theorem expanded2_some (b off c : Nat) (l : List R.Run) (w : World) (hl : l.length ≤ maxLen) (hb : b < w.heap.size) (h64 : (R.ex l).length ≤ 64) (hx : ∀ p ∈ l, p.1 < 18446744073709551616) (hm : ∀ p ∈ l, 0 ≤ p.2 ∧ p.2 ≤ 64)
    (hc : ∀ i, i < l.length → w.cell? ⟨b, off + i * 2, none⟩ = some (.int .u64 ((l.getD i (0, 0)).1 : Int)) ∧ w.cell? ⟨b, off + i * 2 + 1, none⟩ = some (.int .i64 (l.getD i (0, 0)).2)) :
    Calls Try.prog 17 #[.slice (some ⟨b, off, none⟩) l.length c] w (NumsOnly2 (R.ex l) w) := by
  unfold maxLen at hl
  have HC := Lib.hid hc
  have HEX := Lib.hid (fun k hk => ex_take l k hk)
  have HMB := Lib.hid (fun k (hk : k < l.length) => hm (l.getD k (0, 0)) (by simp only [List.getD, List.getElem?_eq_getElem hk, Option.getD_some]; exact List.getElem_mem hk))
  have HLE := Lib.hid (fun k => show (R.ex (l.take k)).length ≤ 64 by
    have h1 : R.ex l = R.ex (l.take k) ++ R.ex (l.drop k) := by rw [← R.ex_append, List.take_append_drop]
    rw [h1, List.length_append] at h64; omega)
  have HAL := Lib.hid (show R.ex (l.take l.length) = R.ex l by rw [List.take_length])
  clear hc hx hm h64
  go_enter Try.func17, Try.ntmps17
  go_wp2_with fail
  go_loopw [3, 4, 5] (fun v i _ wr => ∃ k : Nat, k ≤ l.length ∧ i = .int .i64 k ∧ NumRow w.heap.size (R.ex (l.take k)) v wr ∧ Below w.heap.size w wr) (fun _ i _ _ => l.length - (intOf i).toNat)
  case atStart => exact ⟨0, by omega, rfl, ⟨rfl, Or.inl ⟨rfl, rfl⟩⟩, Below.refl _ _⟩
  case round =>
    obtain ⟨k, hk, rfl, hrow, hbw⟩ := hrel
    by_cases hlt : k < l.length
    · obtain ⟨c0, c1⟩ := HC.out k hlt
      have hex := HEX.out k hlt
      have hmb := HMB.out k hlt
      have hle := HLE.out (k + 1)
      generalize l.getD k (0, 0) = r at *
      obtain ⟨x, m⟩ := r
      simp only at c0 c1 hex hmb
      obtain ⟨m, rfl⟩ : ∃ n : Nat, m = n := ⟨m.toNat, by omega⟩
      rw [Int.toNat_natCast] at hex
      rw [hex, List.length_append, List.length_replicate] at hle
      have HE := Lib.hid hex
      have hm64 : m ≤ 64 := by omega
      generalize R.ex (l.take k) = xs at *
      clear hex hmb
      obtain ⟨wo, hwo⟩ : ∃ wo : World, wo = wr := ⟨_, rfl⟩
      subst hwo
      go_wp2_with fail
      go_loopw [3, 5] (fun v j wq => ∃ t : Nat, t ≤ m ∧ j = .int .i64 t ∧ NumRow w.heap.size (xs ++ List.replicate t x) v wq ∧ Below w.heap.size w wq) (fun _ j _ => m - (intOf j).toNat)
      case atStart => exact ⟨0, by omega, rfl, by simpa using hrow, hbw⟩
      case round =>
        obtain ⟨t, ht, rfl, hrow2, hbw2⟩ := hrel
        have c0' : wr.cell? ⟨b, off + k * 2, none⟩ = some (.int .u64 (x : Int)) := (hbw2.cell (p := ⟨b, off + k * 2, none⟩) hb).trans c0
        have c1' : wr.cell? ⟨b, off + k * 2 + 1, none⟩ = some (.int .i64 (m : Int)) := (hbw2.cell (p := ⟨b, off + k * 2 + 1, none⟩) hb).trans c1
        by_cases htm : t < m
        · have HR2 := Lib.hid (show xs ++ List.replicate (t + 1) x = (xs ++ List.replicate t x) ++ [x] by rw [List.replicate_succ', List.append_assoc])
          have hxl : ((xs ++ List.replicate t x).length + 1) * 8 ≤ 140737488355328 := by rw [List.length_append, List.length_replicate]; omega
          generalize xs ++ List.replicate t x = ys at *
          have HROW := Lib.hid hrow2
          clear hrow2
          have hb5 : w.heap.size ≤ (wr.alloc (.cells #[.int .u64 (x : Int)] 34)).heap.size := by have := hbw2.size; simp; omega
          go_wp2_with (at_builtin; refine wpList_append_one rfl (.tmp 21) (.tmp 27) rfl w.heap.size _ ys.length _ rfl (HROW.out.alloc _) wr.heap.size x rfl (World.cell?_alloc_new _ _ _ _) hxl hb5 ?_)
          intro v' w2 hown2 hgrow2
          go_wp2_with fail
          have hbw3 : Below w.heap.size w w2 := (hbw2.alloc hbw2.size _).grown hgrow2 (by have := hbw2.size; simp; omega) (fun k hk => (HROW.out.lt k hk).1)
          refine ⟨⟨t + 1, by omega, by go_num, ?_, hbw3⟩, by simp [intOf]; omega⟩
          rw [HR2.out]; unfold NumRow; simpa [nv] using hown2
        · obtain rfl : t = m := by omega
          rw [← HE.out] at hrow2
          go_wp2_with fail
          exact ⟨⟨k + 1, by omega, by go_num, hrow2, hbw2⟩, by simp [intOf]; omega⟩
    · obtain rfl : k = l.length := by omega
      rw [HAL.out] at hrow
      obtain ⟨a, c', rfl, hnum, hnl⟩ := numRow_nums2 hrow
      generalize R.ex l = xs at *
      go_wp2_with fail
      go_ret
      exact ⟨a, c', rfl, hnum, hnl, hbw⟩

set_option maxHeartbeats 400000 in
theorem expanded2_nil (a : Option Addr) (c : Nat) (w : World) :
    Calls Try.prog 17 #[.slice a 0 c] w (NumsOnly2 [] w) := by
  go_enter Try.func17, Try.ntmps17
  go_wp2_with fail
  refine wp_loop_rounds 1 ?_
  rw [rounds_succ]
  go_wp2_with fail
  go_ret
  exact ⟨none, 0, rfl, Nums.nil _ _ _, fun _ => rfl, Below.refl _ _⟩
theorem expanded2_any (a : Option Addr) (c : Nat) (l : List R.Run) (w : World) (hl : l.length ≤ maxLen) (h64 : (R.ex l).length ≤ 64) (hx : ∀ p ∈ l, p.1 < 18446744073709551616) (hm : ∀ p ∈ l, 0 ≤ p.2 ∧ p.2 ≤ 64) (hu : Runs w w.heap.size a l) :
    Calls Try.prog 17 #[.slice a l.length c] w (NumsOnly2 (R.ex l) w) := by
  by_cases hn : l = []
  · subst hn; exact expanded2_nil a c w
  · obtain ⟨b, off, rfl, hb, hc⟩ := hu hn
    exact expanded2_some b off c l w hl hb h64 hx hm hc
end Go.Proofs.Ythmlafoceacliab
