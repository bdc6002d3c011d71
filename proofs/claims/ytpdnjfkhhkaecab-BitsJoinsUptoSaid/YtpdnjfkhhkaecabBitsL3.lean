/- The law BitsJoins. -/
import Derived.Test.YtpdnjfkhhkaecabBitsL2
import Derived.Test.YtpdnjfkhhkaecabOne
namespace Go.Proofs.Ytpdnjfkhhkaecab
open Go.RowKit
set_option linter.unusedVariables false

theorem pack_join (a b : List Nat) (n : Nat) (h1 : (packR a n).2 = 0) (h2 : (packR b n).2 = 0) (h3 : (packR (a ++ b) n).2 = 0) (hm : a.length * n % 8 = 0) :
    (packR (a ++ b) n).1 = (packR a n).1 ++ (packR b n).1 := by
  obtain ⟨n1, e1, _, _, hf1, r1⟩ := pack_ok a n h1
  obtain ⟨n2, e2, _, _, hf2, r2⟩ := pack_ok b n h2
  obtain ⟨n3, e3, _, _, hf3, r3⟩ := pack_ok (a ++ b) n h3
  obtain rfl : n = n1 := by omega
  obtain rfl : n = n2 := by omega
  obtain rfl : n = n3 := by omega
  rw [r1, r2, r3]
  simp only
  rw [B.pk_append, List.length_append, Nat.add_mul]
  have hs : B.sz (a.length * n + b.length * n) = B.sz (a.length * n) + B.sz (b.length * n) := by unfold B.sz; omega
  have hp : 2 ^ (n * a.length) = 256 ^ B.sz (a.length * n) := by
    rw [B.two8, Nat.mul_comm n]; congr 1; unfold B.sz; omega
  have hlt := B.pk_lt n a hf1
  rw [hp] at hlt
  rw [hs, hp, B.le_append _ _ _ _ hlt]

set_option maxHeartbeats 2000000 in
set_option maxRecDepth 100000 in
theorem bitsJoins_walk (w : World) (a : Option Addr) (c : Nat) (l : List Nat) (hm : l.length ≤ maxLen) (hcap : l.length ≤ c ∧ c ≤ maxLen ∧ (a = none → c = 0)) (hx : ∀ x ∈ l, x < 18446744073709551616) (hu : Nums w w.heap.size a l)
    (a' : Option Addr) (c' : Nat) (m : List Nat) (hm' : m.length ≤ maxLen) (hcap' : m.length ≤ c' ∧ c' ≤ maxLen ∧ (a' = none → c' = 0)) (hx' : ∀ x ∈ m, x < 18446744073709551616) (hu' : Nums w w.heap.size a' m)
    (wide : Int) (hw : -9223372036854775808 ≤ wide ∧ wide ≤ 9223372036854775807) (hbd : l.length + m.length ≤ 1048576) :
    Calls Try.prog 8 #[.slice a l.length c, .slice a' m.length c', .int .i64 wide] w (BoolPost true w) := by
  obtain ⟨_, _, hnil⟩ := hcap
  obtain ⟨_, _, hnil'⟩ := hcap'
  have hp1 := fun w' hu => pack_any a c l wide w' hx hu
  have hp2 := fun w' hu => pack_any a' c' m wide w' hx' hu
  have hp3 := fun v d w' hu => pack_any v d (l ++ m) wide w' (by intro x h; rcases List.mem_append.1 h with h | h; exact hx x h; exact hx' x h) hu
  simp only [List.length_append] at hp3
  have hj : (packR l wide).2 = 0 → (packR m wide).2 = 0 → (packR (l ++ m) wide).2 = 0 → ∃ n : Nat, wide = n ∧ n ≤ 64 ∧ l.length ≤ 64 ∧ (packR l wide).1.length ≤ 4096 ∧ (packR m wide).1.length ≤ 4096 ∧ (l.length * n % 8 = 0 → (packR (l ++ m) wide).1 = (packR l wide).1 ++ (packR m wide).1) := by
    intro h1 h2 h3
    obtain ⟨n, rfl, hn, hl, _, r⟩ := pack_ok l wide h1
    obtain ⟨n2, e2, hn2, hl2, _, r2⟩ := pack_ok m n h2
    obtain rfl : n = n2 := by omega
    have k1 := Nat.mul_le_mul hl hn
    have k2 := Nat.mul_le_mul hl2 hn
    refine ⟨n, rfl, hn, hl, ?_, ?_, fun h => pack_join l m n h1 h2 h3 h⟩
    · rw [r, B.le_length]; unfold B.sz; omega
    · rw [r2, B.le_length]; unfold B.sz; omega
  generalize packR l wide = r1 at *
  generalize packR m wide = r2 at *
  generalize packR (l ++ m) wide = r3 at *
  obtain ⟨t1, e1⟩ := r1
  obtain ⟨t2, e2⟩ := r2
  obtain ⟨t3, e3⟩ := r3
  simp only at hj
  have HP1 := Lib.hid hp1
  have HP2 := Lib.hid hp2
  have HP3 := Lib.hid hp3
  have HJ := Lib.hid hj
  have HNIL := Lib.hid hnil
  have HNIL' := Lib.hid hnil'
  clear hp1 hp2 hp3 hj hx hx' hnil hnil'
  unfold maxLen at hm hm'
  go_enter Try.func8, Try.ntmps8
  go_wp2_with fail
  refine (HP1.out _ hu).mono ?_
  rintro e w1 ⟨rfl, hb1⟩
  go_wp2_with fail
  refine (HP2.out _ (hu'.next hb1)).mono ?_
  rintro e w2 ⟨rfl, hb2⟩
  have h2 := below_then hb1 hb2
  have hown0 : (w2.alloc (.cells #[] 31)).ownsRow w2.heap.size 31 1 (.slice (some ⟨w2.heap.size, 0, none⟩) 0 0) 0 [] :=
    ⟨by simp, Or.inr ⟨w2.heap.size, 0, #[], rfl, Nat.le_refl _, heap_alloc_new w2 _, Nat.le_refl _, by unfold maxLen; omega, rfl, rfl⟩⟩
  have hb3 : Below w.heap.size w (w2.alloc (.cells #[] 31)) := h2.alloc h2.size _
  go_wp2_with (at_builtin; refine wpList_append_nums rfl (.tmp 26) (.tmp 27) rfl w2.heap.size _ 0 _ rfl hown0 a l.length c l rfl rfl HNIL.out (hu.next hb3) (by omega) (by simp) ?_)
  intro v4 w4 hown4 hg4
  have hb4 : Below w.heap.size w w4 := hb3.grown hg4 (by simp; have := h2.size; omega) (fun k hk => by have := (hown0.lt k hk).1; have := h2.size; omega)
  have hs4 : w2.heap.size ≤ w4.heap.size := by have := hg4.size; simp at this; omega
  have hbb : (l.length + m.length) * 8 ≤ 140737488355328 := by omega
  go_wp2_with (at_builtin; refine wpList_append_nums rfl (.tmp 28) (.tmp 29) rfl w2.heap.size _ l.length _ rfl hown4 a' m.length c' m rfl rfl HNIL'.out (hu'.next hb4) hbb hs4 ?_)
  intro v5 w5 hown5 hg5
  have hb5 : Below w.heap.size w w5 := hb4.grown hg5 hb4.size (fun k hk => by have := (hown4.lt k hk).1; have := h2.size; omega)
  have hnr : NumRow w2.heap.size (l ++ m) v5 w5 := by
    unfold NumRow
    simpa [nv] using hown5
  obtain ⟨a5, c5, hv5, hn5⟩ := numRow_nums hnr
  rw [List.length_append] at hv5
  rw [hv5]
  clear hv5
  clear hown0 hown4 hown5 hg4 hg5 hnr
  go_wp2_with fail
  refine (HP3.out a5 c5 _ hn5).mono ?_
  rintro e w6 ⟨rfl, hb6⟩
  have h6 := below_then hb5 hb6
  go_wp2_with fail
  refine (begun_any _).mono ?_
  rintro e w7 ⟨rfl, hb7⟩
  have h7 := below_then h6 hb7
  by_cases k1 : e1 = 0
  · by_cases k2 : e2 = 0
    · by_cases k3 : e3 = 0
      · obtain ⟨n, rfl, hn, hl, hl1, hl2, hj⟩ := HJ.out k1 k2 k3
        subst k1 k2 k3
        have hmul := Nat.mul_le_mul hl hn
        have hmulI : ((l.length : Int) * (n : Int)) = ((l.length * n : Nat) : Int) := by simp
        have hs1 : (str t1).size ≤ 4096 := by rw [str_size]; exact hl1
        have hs2 : (str t2).size ≤ 4096 := by rw [str_size]; exact hl2
        have HJ2 := Lib.hid hj
        clear hj hl1 hl2
        generalize l.length * n = M at *
        by_cases hmod : M % 8 = 0
        · have g1 : ((M : Int) % 8 != 0) = false := by rw [bne_eq_false_iff_eq]; omega
          go_wp2_with fail
          go_ret
          refine ⟨ret_bool ?_, h7⟩
          rw [str_append, str_toList, str_toList, HJ2.out hmod]; simp
        · have g1 : ((M : Int) % 8 != 0) = true := by rw [bne_iff_ne]; omega
          go_wp2_with fail
          go_ret
          exact ⟨rfl, h7⟩
      · have g3 : ((e3 : Int) != 0) = true := by rw [bne_iff_ne]; omega
        subst k1 k2
        go_wp2_with fail
        go_ret
        exact ⟨rfl, h7⟩
    · have g2 : ((e2 : Int) != 0) = true := by rw [bne_iff_ne]; omega
      subst k1
      go_wp2_with fail
      go_ret
      exact ⟨rfl, h7⟩
  · have g1 : ((e1 : Int) != 0) = true := by rw [bne_iff_ne]; omega
    go_wp2_with fail
    go_ret
    exact ⟨rfl, h7⟩
end Go.Proofs.Ytpdnjfkhhkaecab
