/- The walks of the reference: RunsCheck, Expanded. -/
import Derived.Test.YthmlafoceacliabRBase
import Derived.IntWalk
namespace Go.Proofs.Ythmlafoceacliab
open Go.RowKit
set_option linter.unusedVariables false

theorem chk_step (prev : Option Nat) (all : Int) (r : R.Run) (l : List R.Run) : R.chkL prev all (r :: l) = if r.2 < 1 ∨ 64 < r.2 then 3 else if prev = some r.1 then 6 else if 64 < all + r.2 then 2 else R.chkL (some r.1) (all + r.2) l := rfl

def prevOf (l : List R.Run) (k : Nat) : Option Nat := if k = 0 then none else some (l.getD (k - 1) (0, 0)).1

set_option maxHeartbeats 1000000 in
set_option maxRecDepth 100000 in
theorem rcheck_some (b off c : Nat) (l : List R.Run) (w : World) (hl : l.length ≤ maxLen)
    (hc : ∀ i, i < l.length → w.cell? ⟨b, off + i * 2, none⟩ = some (.int .u64 ((l.getD i (0, 0)).1 : Int)) ∧ w.cell? ⟨b, off + i * 2 + 1, none⟩ = some (.int .i64 (l.getD i (0, 0)).2)) :
    Calls Try.prog 13 #[.slice (some ⟨b, off, none⟩) l.length c] w (ErrPost (R.chk l) w) := by
  unfold maxLen at hl
  have HC := Lib.hid hc
  clear hc
  generalize hr : R.chk l = res
  have HR := Lib.hid hr
  clear hr
  go_enter Try.func13, Try.ntmps13
  go_wp2_with fail
  go_loopw [3, 4] (fun s i wr => ∃ (k d : Nat) (all : Int), k ≤ l.length ∧ i = .int .i64 k ∧ s = .int .i64 all ∧ 0 ≤ all ∧ all ≤ 64 ∧ wr = w.drewN d ∧ Hid (res = R.chkL (prevOf l k) all (l.drop k))) (fun _ i _ => l.length - (intOf i).toNat)
  case atStart => exact ⟨0, 0, 0, by omega, rfl, rfl, by omega, by omega, rfl, Lib.hid (by rw [← HR.out]; rfl)⟩
  case round =>
    obtain ⟨k, d, all, hk, rfl, rfl, ha0, ha, rfl, HK⟩ := hrel
    by_cases hlt : k < l.length
    · obtain ⟨c0, c1⟩ := HC.out k hlt
      have hdr := rdrop_cons l k hlt
      have hkk := HK.out
      rw [hdr, chk_step] at hkk
      have HPN := Lib.hid (show prevOf l (k + 1) = some (l.getD k (0, 0)).1 by simp [prevOf])
      have hprev : 0 < k → prevOf l k = some (l.getD (k - 1) (0, 0)).1 := fun h => by rw [prevOf, if_neg (by omega)]
      have hprev0 : k = 0 → prevOf l k = none := fun h => by rw [prevOf, if_pos h]
      have HP := Lib.hid hprev
      have HP0 := Lib.hid hprev0
      have HCP := Lib.hid (fun h : 0 < k => (HC.out (k - 1) (by omega)).1)
      generalize l.getD k (0, 0) = r at *
      obtain ⟨x, m⟩ := r
      simp only at c0 c1 hkk HPN
      clear hdr HK hprev hprev0
      by_cases h1 : m < 1
      · rw [if_pos (Or.inl h1)] at hkk
        subst hkk
        have g1 : decide (m < 1) = true := by simp; omega
        go_wp2_with fail
        go_ret
        exact ⟨rfl, below_drewN (Below.refl _ _) _⟩
      · have g1 : decide (m < 1) = false := by simp; omega
        by_cases h2 : 64 < m
        · rw [if_pos (Or.inr h2)] at hkk
          subst hkk
          have g2 : decide (64 < m) = true := by simp; omega
          go_wp2_with fail
          go_ret
          exact ⟨rfl, below_drewN (Below.refl _ _) _⟩
        · have g2 : decide (64 < m) = false := by simp; omega
          rw [if_neg (by omega)] at hkk
          have hm1 : 1 ≤ m := by omega
          have hm2 : m ≤ 64 := by omega
          clear h1 h2
          by_cases hk0 : k = 0
          · rw [HP0.out hk0, if_neg (by simp)] at hkk
            have g3 : decide ((0 : Int) < (k : Int)) = false := by simp; omega
            have g3' : decide (0 < k) = false := by simp; omega
            clear hk0 HCP
            by_cases h3 : 64 < all + m
            · rw [if_pos h3] at hkk
              subst hkk
              have g4 : decide (64 < all + m) = true := by simp; omega
              go_wp2_with fail
              go_quiet (fail)
              go_wp2_with fail
              go_ret
              first | exact ⟨rfl, below_drewN (Below.refl _ _) _⟩ | exact ⟨rfl, below_drewN (below_drewN (Below.refl _ _) _) _⟩
            · rw [if_neg h3, ← HPN.out] at hkk
              have HN := Lib.hid hkk
              have g4 : decide (64 < all + m) = false := by simp; omega
              have h3' : all + m ≤ 64 := by omega
              clear hkk h3
              go_wp2_with fail
              go_quiet (fail)
              go_wp2_with fail
              exact ⟨⟨k + 1, d + nq, all + m, by omega, by go_num, rfl, by omega, by omega, rfl, HN⟩, by simp [intOf]; omega⟩
          · have hkp : 0 < k := by omega
            have cp := HCP.out hkp
            rw [HP.out hkp] at hkk
            obtain ⟨k', hk'⟩ : ∃ k', k - 1 = k' := ⟨_, rfl⟩
            rw [hk'] at cp hkk
            generalize (l.getD k' (0, 0)).1 = y at *
            have hw1 : IntKind.i64.wrap ((k : Int) - 1) = (k' : Int) := by rw [IntWalk.i64_in _ (by omega)]; omega
            have hk2 : k' < l.length := by omega
            have g3 : decide ((0 : Int) < (k : Int)) = true := by simp; omega
            have g3' : decide (0 < k) = true := by simp; omega
            have HK' := Lib.hid hk'
            clear hk0 HCP hk'
            by_cases hq : x = y
            · rw [if_pos (by rw [hq])] at hkk
              subst hkk
              have g5 : ((x : Int) == (y : Int)) = true := by rw [hq]; simp
              clear hq
              go_wp2_with fail
              go_quiet (fail)
              go_wp2_with fail
              go_ret
              first | exact ⟨rfl, below_drewN (Below.refl _ _) _⟩ | exact ⟨rfl, below_drewN (below_drewN (Below.refl _ _) _) _⟩
            · rw [if_neg (by intro e; exact hq (by simpa using e.symm))] at hkk
              have g5 : ((x : Int) == (y : Int)) = false := by rw [beq_eq_false_iff_ne]; omega
              clear hq
              by_cases h3 : 64 < all + m
              · rw [if_pos h3] at hkk
                subst hkk
                have g4 : decide (64 < all + m) = true := by simp; omega
                go_wp2_with fail
                go_quiet (fail)
                go_wp2_with fail
                go_ret
                first | exact ⟨rfl, below_drewN (Below.refl _ _) _⟩ | exact ⟨rfl, below_drewN (below_drewN (Below.refl _ _) _) _⟩
              · rw [if_neg h3, ← HPN.out] at hkk
                have HN := Lib.hid hkk
                have g4 : decide (64 < all + m) = false := by simp; omega
                have h3' : all + m ≤ 64 := by omega
                clear hkk h3
                go_wp2_with fail
                go_quiet (fail)
                clear hw1
                go_wp2_with fail
                exact ⟨⟨k + 1, d + nq, all + m, by omega, by go_num, rfl, by omega, by omega, rfl, HN⟩, by simp [intOf]; omega⟩
    · have HE := Lib.hid (show res = 0 by rw [HK.out, List.drop_eq_nil_of_le (by omega)]; rfl)
      go_wp2_with fail
      go_ret
      rw [HE.out]
      exact ⟨rfl, below_drewN (Below.refl _ _) _⟩

set_option maxHeartbeats 400000 in
theorem rcheck_nil (a : Option Addr) (c : Nat) (w : World) :
    Calls Try.prog 13 #[.slice a 0 c] w (ErrPost 0 w) := by
  go_enter Try.func13, Try.ntmps13
  go_wp2_with fail
  refine wp_loop_rounds 1 ?_
  rw [rounds_succ]
  go_wp2_with fail
  go_ret
  exact ⟨rfl, Below.refl _ _⟩
theorem rcheck_any (a : Option Addr) (c : Nat) (l : List R.Run) (w : World) (B' : Nat) (hl : l.length ≤ maxLen) (hu : Runs w B' a l) :
    Calls Try.prog 13 #[.slice a l.length c] w (ErrPost (R.chk l) w) := by
  by_cases hn : l = []
  · subst hn; exact rcheck_nil a c w
  · obtain ⟨b, off, rfl, _, hc⟩ := hu hn
    exact rcheck_some b off c l w hl hc

theorem ex_take (l : List R.Run) (k : Nat) (h : k < l.length) : R.ex (l.take (k + 1)) = R.ex (l.take k) ++ List.replicate (l.getD k (0, 0)).2.toNat (l.getD k (0, 0)).1 := by
  rw [rtake_snoc l k h, R.ex_append]; simp [R.ex]

set_option maxHeartbeats 1000000 in
set_option maxRecDepth 100000 in
theorem expanded_some (b off c : Nat) (l : List R.Run) (w : World) (hl : l.length ≤ maxLen) (hb : b < w.heap.size) (h64 : (R.ex l).length ≤ 64) (hx : ∀ p ∈ l, p.1 < 18446744073709551616) (hm : ∀ p ∈ l, 0 ≤ p.2 ∧ p.2 ≤ 64)
    (hc : ∀ i, i < l.length → w.cell? ⟨b, off + i * 2, none⟩ = some (.int .u64 ((l.getD i (0, 0)).1 : Int)) ∧ w.cell? ⟨b, off + i * 2 + 1, none⟩ = some (.int .i64 (l.getD i (0, 0)).2)) :
    Calls Try.prog 17 #[.slice (some ⟨b, off, none⟩) l.length c] w (NumsOnly (R.ex l) w) := by
  unfold maxLen at hl
  have HC := Lib.hid hc
  have HEX := Lib.hid (fun k hk => ex_take l k hk)
  have HMB := Lib.hid (fun k (hk : k < l.length) => hm (l.getD k (0, 0)) (by simp only [List.getD, List.getElem?_eq_getElem hk, Option.getD_some]; exact List.getElem_mem hk))
  have HLE := Lib.hid (fun k => show (R.ex (l.take k)).length ≤ 64 by
    have h1 : R.ex l = R.ex (l.take k) ++ R.ex (l.drop k) := by rw [← R.ex_append, List.take_append_drop]
    rw [h1, List.length_append] at h64; omega)
  have HAL := Lib.hid (show R.ex (l.take l.length) = R.ex l by rw [List.take_length])
  clear hc hx hm h64
  go_enter Try.func17, Try.ntmps17
  go_wp2_with fail
  go_loopw [3, 4, 5] (fun v i _ wr => ∃ k : Nat, k ≤ l.length ∧ i = .int .i64 k ∧ NumRow w.heap.size (R.ex (l.take k)) v wr ∧ Below w.heap.size w wr) (fun _ i _ _ => l.length - (intOf i).toNat)
  case atStart => exact ⟨0, by omega, rfl, ⟨rfl, Or.inl ⟨rfl, rfl⟩⟩, Below.refl _ _⟩
  case round =>
    obtain ⟨k, hk, rfl, hrow, hbw⟩ := hrel
    by_cases hlt : k < l.length
    · obtain ⟨c0, c1⟩ := HC.out k hlt
      have hex := HEX.out k hlt
      have hmb := HMB.out k hlt
      have hle := HLE.out (k + 1)
      generalize l.getD k (0, 0) = r at *
      obtain ⟨x, m⟩ := r
      simp only at c0 c1 hex hmb
      obtain ⟨m, rfl⟩ : ∃ n : Nat, m = n := ⟨m.toNat, by omega⟩
      rw [Int.toNat_natCast] at hex
      rw [hex, List.length_append, List.length_replicate] at hle
      have HE := Lib.hid hex
      have hm64 : m ≤ 64 := by omega
      generalize R.ex (l.take k) = xs at *
      clear hex hmb
      obtain ⟨wo, hwo⟩ : ∃ wo : World, wo = wr := ⟨_, rfl⟩
      subst hwo
      go_wp2_with fail
      go_loopw [3, 5] (fun v j wq => ∃ t : Nat, t ≤ m ∧ j = .int .i64 t ∧ NumRow w.heap.size (xs ++ List.replicate t x) v wq ∧ Below w.heap.size w wq) (fun _ j _ => m - (intOf j).toNat)
      case atStart => exact ⟨0, by omega, rfl, by simpa using hrow, hbw⟩
      case round =>
        obtain ⟨t, ht, rfl, hrow2, hbw2⟩ := hrel
        have c0' : wr.cell? ⟨b, off + k * 2, none⟩ = some (.int .u64 (x : Int)) := (hbw2.cell (p := ⟨b, off + k * 2, none⟩) hb).trans c0
        have c1' : wr.cell? ⟨b, off + k * 2 + 1, none⟩ = some (.int .i64 (m : Int)) := (hbw2.cell (p := ⟨b, off + k * 2 + 1, none⟩) hb).trans c1
        by_cases htm : t < m
        · have HR2 := Lib.hid (show xs ++ List.replicate (t + 1) x = (xs ++ List.replicate t x) ++ [x] by rw [List.replicate_succ', List.append_assoc])
          have hxl : ((xs ++ List.replicate t x).length + 1) * 8 ≤ 140737488355328 := by rw [List.length_append, List.length_replicate]; omega
          generalize xs ++ List.replicate t x = ys at *
          have HROW := Lib.hid hrow2
          clear hrow2
          have hb5 : w.heap.size ≤ (wr.alloc (.cells #[.int .u64 (x : Int)] 34)).heap.size := by have := hbw2.size; simp; omega
          go_wp2_with (at_builtin; refine wpList_append_one rfl (.tmp 21) (.tmp 27) rfl w.heap.size _ ys.length _ rfl (HROW.out.alloc _) wr.heap.size x rfl (World.cell?_alloc_new _ _ _ _) hxl hb5 ?_)
          intro v' w2 hown2 hgrow2
          go_wp2_with fail
          have hbw3 : Below w.heap.size w w2 := (hbw2.alloc hbw2.size _).grown hgrow2 (by have := hbw2.size; simp; omega) (fun k hk => (HROW.out.lt k hk).1)
          refine ⟨⟨t + 1, by omega, by go_num, ?_, hbw3⟩, by simp [intOf]; omega⟩
          rw [HR2.out]; unfold NumRow; simpa [nv] using hown2
        · obtain rfl : t = m := by omega
          rw [← HE.out] at hrow2
          go_wp2_with fail
          exact ⟨⟨k + 1, by omega, by go_num, hrow2, hbw2⟩, by simp [intOf]; omega⟩
    · obtain rfl : k = l.length := by omega
      rw [HAL.out] at hrow
      obtain ⟨a, c', rfl, hnum⟩ := numRow_nums hrow
      generalize R.ex l = xs at *
      go_wp2_with fail
      go_ret
      exact ⟨a, c', rfl, hnum, hbw⟩

set_option maxHeartbeats 400000 in
theorem expanded_nil (a : Option Addr) (c : Nat) (w : World) :
    Calls Try.prog 17 #[.slice a 0 c] w (NumsOnly [] w) := by
  go_enter Try.func17, Try.ntmps17
  go_wp2_with fail
  refine wp_loop_rounds 1 ?_
  rw [rounds_succ]
  go_wp2_with fail
  go_ret
  exact ⟨none, 0, rfl, Nums.nil _ _ _, Below.refl _ _⟩
theorem expanded_any (a : Option Addr) (c : Nat) (l : List R.Run) (w : World) (hl : l.length ≤ maxLen) (h64 : (R.ex l).length ≤ 64) (hx : ∀ p ∈ l, p.1 < 18446744073709551616) (hm : ∀ p ∈ l, 0 ≤ p.2 ∧ p.2 ≤ 64) (hu : Runs w w.heap.size a l) :
    Calls Try.prog 17 #[.slice a l.length c] w (NumsOnly (R.ex l) w) := by
  by_cases hn : l = []
  · subst hn; exact expanded_nil a c w
  · obtain ⟨b, off, rfl, hb, hc⟩ := hu hn
    exact expanded_some b off c l w hl hb h64 hx hm hc
end Go.Proofs.Ythmlafoceacliab
