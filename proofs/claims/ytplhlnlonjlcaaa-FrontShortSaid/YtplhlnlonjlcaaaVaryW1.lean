/- The walks of vary.size, vary.lead, vary.spell. -/
import Derived.Test.YtplhlnlonjlcaaaBaseB
import Derived.Test.YtplhlnlonjlcaaaVaryPlain
namespace Go.Proofs.Ytplhlnlonjlcaaa
open Go.RowKit
set_option linter.unusedVariables false

theorem nine {k : Nat} (h1 : 1 ≤ k) (h9 : k ≤ 9) : k = 1 ∨ k = 2 ∨ k = 3 ∨ k = 4 ∨ k = 5 ∨ k = 6 ∨ k = 7 ∨ k = 8 ∨ k = 9 := by omega

theorem lead_eq (k : Nat) (h1 : 1 ≤ k) (h9 : k ≤ 9) : (255 * 2 ^ (9 - k) % 256 : Int) = (V.ld k : Int) := by
  rcases nine h1 h9 with rfl | rfl | rfl | rfl | rfl | rfl | rfl | rfl | rfl <;> rfl

set_option maxHeartbeats 400000 in
theorem lead_any (k : Nat) (w : World) (h1 : 1 ≤ k) (h9 : k ≤ 9) :
    Calls Try.prog 33 #[.int .i64 k] w fun e w' => e = .returned (.int .u8 (V.ld k)) ∧ w = w' := by
  have H := Lib.hid (lead_eq k h1 h9)
  go_enter Try.func33, Try.ntmps33
  go_wp2
  go_ret
  exact ⟨by rw [← H.out]; rfl, rfl⟩

def SzRel (n k : Nat) : Prop := k = 0 ∨ 2 ^ (7 * k) ≤ n

theorem sz_at (n k : Nat) (hk : k < 8) (hr : SzRel n k) (h : ((n : Int) / 2 ^ (7 * (k + 1)) == 0) = true) : V.sz n = k + 1 := by
  have h2 : n / 2 ^ (7 * (k + 1)) = 0 := by
    have : ((n / 2 ^ (7 * (k + 1)) : Nat) : Int) = 0 := by simpa using h
    omega
  have h3 : n < 2 ^ (7 * (k + 1)) := by
    rcases Nat.div_eq_zero_iff.mp h2 with x | x
    · have := Nat.pow_pos (n := 7 * (k + 1)) (show 0 < 2 by omega); omega
    · exact x
  have hs := V.sz_spec n
  have : k = 0 ∨ k = 1 ∨ k = 2 ∨ k = 3 ∨ k = 4 ∨ k = 5 ∨ k = 6 ∨ k = 7 := by omega
  unfold SzRel at hr
  rcases this with rfl | rfl | rfl | rfl | rfl | rfl | rfl | rfl <;> simp only [Nat.reduceAdd, Nat.reduceMul, Nat.reducePow] at h3 hr <;> omega

theorem sz_on (n k : Nat) (hk : k < 8) (h : ((n : Int) / 2 ^ (7 * (k + 1)) == 0) = false) : SzRel n (k + 1) := by
  refine Or.inr ?_
  rcases Nat.lt_or_ge n (2 ^ (7 * (k + 1))) with x | x
  · have h2 : n / 2 ^ (7 * (k + 1)) = 0 := Nat.div_eq_of_lt x
    have : ((n / 2 ^ (7 * (k + 1)) : Nat) : Int) = 0 := by rw [h2]; rfl
    have h3 : ((n : Int) / 2 ^ (7 * (k + 1))) = 0 := by simpa using this
    rw [h3] at h; simp at h
  · exact x

theorem sz_end (n : Nat) (hr : SzRel n 8) : V.sz n = 9 := by
  have hs := V.sz_spec n
  unfold SzRel at hr
  simp only [Nat.reduceMul, Nat.reducePow] at hr
  omega

set_option maxHeartbeats 400000 in
theorem size_any (n : Nat) (w : World) (hn : n < 18446744073709551616) :
    Calls Try.prog 32 #[.int .u64 n] w fun e w' => e = .returned (.int .i64 (V.sz n)) ∧ w = w' := by
  go_enter Try.func32, Try.ntmps32
  go_wp2
  go_loop [2, 3, 4] (fun r _ i => ∃ k : Nat, k ≤ 8 ∧ SzRel n k ∧ i = .int .i64 k ∧ r = .int .i64 0) (fun _ _ i => 8 - (intOf i).toNat)
  case atStart => exact ⟨0, by omega, Or.inl rfl, rfl, rfl⟩
  case round =>
    obtain ⟨k, hk, hr, rfl, rfl⟩ := hrel
    by_cases hlt : k < 8
    · go_wp2
      · go_ret
        have := sz_at n k hlt hr (by assumption)
        exact ⟨by rw [this]; rfl, rfl⟩
      · have hr' := sz_on n k hlt (by assumption)
        go_round
        case rel => exact ⟨k + 1, by omega, hr', by go_num, rfl⟩
        case measure => simp [intOf]; omega
    · obtain rfl : k = 8 := by omega
      go_wp2
      go_ret
      have := sz_end n hr
      exact ⟨by rw [this]; rfl, rfl⟩

/-- the array of spell behind j rounds -/
def sp (n k j : Nat) : List Nat := (List.range 9).map fun p => if k - j ≤ p ∧ p < k then n / 2 ^ (8 * (k - 1 - p)) % 256 else 0
def cs (l : List Nat) : Array Value := (l.map fun x : Nat => Value.int .u8 (x : Int)).toArray

theorem sp_length (n k j : Nat) : (sp n k j).length = 9 := by simp [sp]
theorem cs_size (l : List Nat) : (cs l).size = l.length := by simp [cs]

theorem sp_set (n k j : Nat) (hj : j < k) (hk : k ≤ 9) : (cs (sp n k j)).setIfInBounds (k - 1 - j) (Value.int .u8 ((n : Int) / 2 ^ (8 * j) % 256)) = cs (sp n k (j + 1)) := by
  have e : ((n : Int) / 2 ^ (8 * j) % 256) = ((n / 2 ^ (8 * j) % 256 : Nat) : Int) := by simp
  rw [e]
  simp only [cs, List.setIfInBounds_toArray]
  congr 1
  apply List.ext_getElem
  · simp [sp]
  · intro i h1 h2
    simp only [List.length_set, List.length_map, sp_length] at h1
    simp only [List.getElem_set, List.getElem_map, sp, List.getElem_range]
    by_cases hi : k - 1 - j = i
    · rw [if_pos hi, if_pos (by omega)]; congr 3; congr 2; omega
    · rw [if_neg hi]
      congr 2
      by_cases h3 : k - j ≤ i ∧ i < k
      · rw [if_pos h3, if_pos (by omega)]
      · rw [if_neg h3, if_neg (by omega)]

theorem sp_zero (n : Nat) (k : Nat) : cs (sp n k 0) = #[.int .u8 0, .int .u8 0, .int .u8 0, .int .u8 0, .int .u8 0, .int .u8 0, .int .u8 0, .int .u8 0, .int .u8 0] := by
  have : sp n k 0 = List.replicate 9 0 := by
    apply List.ext_getElem
    · simp [sp]
    · intro i h1 h2; simp only [sp, List.getElem_map, List.getElem_range, List.getElem_replicate]; rw [if_neg (by omega)]
  rw [this]; rfl

theorem list9 (l : List Nat) (h : l.length = 9) : ∃ c0 c1 c2 c3 c4 c5 c6 c7 c8, l = [c0, c1, c2, c3, c4, c5, c6, c7, c8] := by
  match l, h with
  | [c0, c1, c2, c3, c4, c5, c6, c7, c8], _ => exact ⟨c0, c1, c2, c3, c4, c5, c6, c7, c8, rfl⟩

theorem or_ld (k c : Nat) (h1 : 1 ≤ k) (h9 : k ≤ 9) (hc : c < 2 ^ (9 - k)) : bits .or .u8 (c : Int) (V.ld k : Int) = ((c + V.ld k : Nat) : Int) := by
  have hl : V.ld k = 2 ^ (9 - k) * (2 ^ (k - 1) - 1) := by
    rcases nine h1 h9 with rfl | rfl | rfl | rfl | rfl | rfl | rfl | rfl | rfl <;> rfl
  have hc2 : c < 256 := by
    rcases nine h1 h9 with rfl | rfl | rfl | rfl | rfl | rfl | rfl | rfl | rfl <;> simp only [Nat.reduceSub, Nat.reducePow] at hc <;> omega
  have hl2 : V.ld k < 256 := by
    rcases nine h1 h9 with rfl | rfl | rfl | rfl | rfl | rfl | rfl | rfl | rfl <;> decide
  rw [u8_or_nat _ _ hc2 hl2, Nat.or_comm, hl, ← Nat.two_pow_add_eq_or_of_lt hc, Nat.add_comm]

theorem spell_end (n : Nat) (hn : n < 18446744073709551616) (c0 c1 c2 c3 c4 c5 c6 c7 c8 : Nat) (hc : sp n (V.sz n) (V.sz n) = [c0, c1, c2, c3, c4, c5, c6, c7, c8]) :
    bits .or .u8 (c0 : Int) (V.ld (V.sz n) : Int) = ((c0 + V.ld (V.sz n) : Nat) : Int) ∧
    [c0 + V.ld (V.sz n), c1, c2, c3, c4, c5, c6, c7, c8].take (V.sz n) = (V.enc n).map (·.toNat) := by
  have hg := V.sz_ge n
  have h9 := V.sz_le n
  have hb : c0 < 2 ^ (9 - V.sz n) ∧ [c0 + V.ld (V.sz n), c1, c2, c3, c4, c5, c6, c7, c8].take (V.sz n) = (V.enc n).map (·.toNat) := by
    unfold V.enc
    rcases V.sz_spec n with ⟨h, h1⟩ | ⟨h, h1, h2⟩ | ⟨h, h1, h2⟩ | ⟨h, h1, h2⟩ | ⟨h, h1, h2⟩ | ⟨h, h1, h2⟩ | ⟨h, h1, h2⟩ | ⟨h, h1, h2⟩ | ⟨h, h1⟩
    all_goals
      rw [h] at hc ⊢
      simp [sp, List.range, List.range.loop] at hc
      simp only [V.be, V.ld, List.take_succ_cons, List.take_zero, List.map_cons, List.map_nil, UInt8.toNat_ofNat', Nat.reduceSub, Nat.reducePow, Nat.reduceMul, List.cons.injEq, and_true]
      omega
  exact ⟨or_ld _ _ hg h9 hb.1, hb.2⟩

def SpellPost (n : Nat) (w : World) (e : Ending) (w' : World) : Prop :=
  ∃ c0 c1 c2 c3 c4 c5 c6 c7 c8 : Nat, e = .returned (.tuple #[.agg #[.int .u8 c0, .int .u8 c1, .int .u8 c2, .int .u8 c3, .int .u8 c4, .int .u8 c5, .int .u8 c6, .int .u8 c7, .int .u8 c8], .int .i64 (V.sz n)]) ∧
    [c0, c1, c2, c3, c4, c5, c6, c7, c8].take (V.sz n) = (V.enc n).map (·.toNat) ∧ Below w.heap.size w w'

set_option maxHeartbeats 400000 in
theorem spell_any (n : Nat) (w : World) (hn : n < 18446744073709551616) :
    Calls Try.prog 27 #[.int .u64 n] w (SpellPost n w) := by
  have h1 := V.sz_ge n
  have h9 := V.sz_le n
  go_enter Try.func27, Try.ntmps27
  go_wp2_with fail
  refine (size_any n _ hn).mono ?_
  rintro e w' ⟨rfl, rfl⟩
  go_wp2_with fail
  go_loopw [6, 10] (fun _ i wr => ∃ j : Nat, j ≤ V.sz n ∧ i = .int .i64 j ∧ wr = (w.alloc (.cells (cs (sp n 0 0)) 51)).alloc (.cells (cs (sp n (V.sz n) j)) 51)) (fun _ i _ => V.sz n - (intOf i).toNat)
  case atStart => exact ⟨0, by omega, rfl, by rw [sp_zero, sp_zero]⟩
  case round =>
    obtain ⟨j, hj, rfl, rfl⟩ := hrel
    by_cases hlt : j < V.sz n
    · have HS := Lib.hid (sp_set n (V.sz n) j hlt h9)
      have hcs := cs_size (sp n (V.sz n) j)
      have hsl := sp_length n (V.sz n) j
      obtain ⟨v3, hv3⟩ : ∃ v, (cs (sp n (V.sz n) j))[V.sz n - 1 - j]? = some v := by
        rw [Array.getElem?_eq_getElem (by omega)]; exact ⟨_, rfl⟩
      clear hcs hsl
      go_wp2
      refine ⟨⟨j + 1, by omega, by go_num, by rw [HS.out]⟩, by simp [intOf]; omega⟩
    · obtain ⟨c0, c1, c2, c3, c4, c5, c6, c7, c8, hc⟩ := list9 (sp n (V.sz n) j) (sp_length n (V.sz n) j)
      rw [sp_zero, hc]
      simp only [cs, List.map_cons, List.map_nil]
      obtain rfl : j = V.sz n := by omega
      obtain ⟨hor, hend⟩ := spell_end n hn c0 c1 c2 c3 c4 c5 c6 c7 c8 hc
      have H := Lib.hid hend
      clear hc hend
      generalize hd : c0 + V.ld (V.sz n) = d at hor H
      clear hd hlt
      go_wp2_with fail
      go_region_with (go_at_call 33; refine (lead_any _ _ h1 h9).mono ?_; rintro e w' ⟨rfl, rfl⟩)
      all_goals
        go_wp2
        refine bodyPost_ret (v := .tuple #[.agg #[.int .u8 d, .int .u8 c1, .int .u8 c2, .int .u8 c3, .int .u8 c4, .int .u8 c5, .int .u8 c6, .int .u8 c7, .int .u8 c8], .int .i64 (V.sz n)]) (by simp [results, Try.results27, go_sem]) rfl ⟨d, c1, c2, c3, c4, c5, c6, c7, c8, rfl, H.out, ?_⟩
      all_goals exact (((Below.refl _ _).alloc (Nat.le_refl _) _).alloc (by simp) _).drew
end Go.Proofs.Ytplhlnlonjlcaaa
