/- The walk of bits.Pack. -/
import Derived.Test.YtpjmpbpbfjemdaaBitsW2
namespace Go.Proofs.Ytpjmpbpbfjemdaa
open Go.RowKit
set_option linter.unusedVariables false

def packR (l : List Nat) (wide : Int) : List UInt8 × Nat :=
  if wide < 0 ∨ 64 < wide then ([], 3) else if 64 < l.length then ([], 2) else if wide.toNat < B.wd l then ([], 8)
  else (B.le (B.sz (l.length * wide.toNat)) (B.pk wide.toNat l), 0)

def PackPost (r : List UInt8 × Nat) (w : World) (e : Ending) (w' : World) : Prop :=
  e = .returned (.tuple #[.string (str r.1), .int .i64 r.2]) ∧ Below w.heap.size w w'

theorem made_blk {w' : World} {g n B' : Nat} (h : w'.ownsRow B' 5 1 (.slice (some ⟨g, 0, none⟩) n n) n (madeCells (Value.int .u8 0).cells (n * 1)).toList) : Blk w' g (B.le n 0) := by
  rcases h.2 with ⟨he, _⟩ | ⟨g', cap, cur, he, _, hh, _, _, hs, ht⟩
  · cases he
  · injection he with h1 h2 h3
    injection h1 with h1
    injection h1 with h1
    subst h1 h3
    unfold Blk
    rw [hh]
    have e : cur = (bv (B.le n 0)).toArray := by
      apply Array.toList_inj.mp
      rw [List.take_of_length_le (by rw [Array.length_toList, hs]; omega)] at ht
      rw [ht, B.le_zero]
      apply List.ext_getElem
      · simp [madeCells, bv]
      · intro i h1 h2
        simp [madeCells, bv, Value.cells, Nat.mod_one]
    rw [e]

set_option maxHeartbeats 400000 in
theorem pack_range (a : Option Addr) (c n : Nat) (wide : Int) (w : World) (h : wide < 0 ∨ 64 < wide) :
    Calls Try.prog 54 #[.slice a n c, .int .i64 wide] w (PackPost ([], 3) w) := by
  by_cases h0 : wide < 0
  · have g1 : decide (wide < 0) = true := by simp; omega
    go_enter Try.func54, Try.ntmps54
    go_wp2_with fail
    go_ret2
    exact ⟨rfl, Below.refl _ _⟩
  · have g1 : decide (wide < 0) = false := by simp; omega
    have g2 : decide (64 < wide) = true := by simp; omega
    go_enter Try.func54, Try.ntmps54
    go_wp2_with fail
    go_ret2
    exact ⟨rfl, Below.refl _ _⟩

set_option maxHeartbeats 400000 in
theorem pack_many (a : Option Addr) (c n : Nat) (wide : Nat) (w : World) (h : wide ≤ 64) (hn : 64 < n) :
    Calls Try.prog 54 #[.slice a n c, .int .i64 wide] w (PackPost ([], 2) w) := by
  have g1 : decide ((wide : Int) < 0) = false := by simp
  have g2 : decide ((64 : Int) < (wide : Int)) = false := by simp; omega
  go_enter Try.func54, Try.ntmps54
  go_wp2_with fail
  go_ret2
  exact ⟨rfl, Below.refl _ _⟩

set_option maxHeartbeats 400000 in
theorem pack_over (a : Option Addr) (c : Nat) (l : List Nat) (wide : Nat) (w : World) (B' : Nat) (h : wide ≤ 64) (hn : l.length ≤ 64) (hx : ∀ x ∈ l, x < 18446744073709551616) (hu : Nums w B' a l) (ho : wide < B.wd l) :
    Calls Try.prog 54 #[.slice a l.length c, .int .i64 wide] w (PackPost ([], 8) w) := by
  have g1 : decide ((wide : Int) < 0) = false := by simp
  have g2 : decide ((64 : Int) < (wide : Int)) = false := by simp; omega
  have hwd := fun w' h => width_any a c l w' B' (by unfold maxLen; omega) hx h
  have HW := Lib.hid hwd
  have h64 := B.wd_64 l hx
  clear hwd hx
  go_enter Try.func54, Try.ntmps54
  go_wp2_with fail
  refine (HW.out _ hu).mono ?_
  rintro e w1 ⟨rfl, rfl⟩
  go_wp2_with fail
  go_ret2
  exact ⟨rfl, Below.refl _ _⟩

theorem pk_take (w : Nat) (l : List Nat) (k : Nat) (hk : k < l.length) : B.pk w (l.take (k + 1)) = B.pk w (l.take k) + l.getD k 0 * 2 ^ (k * w) := by
  rw [List.take_succ_eq_append_getElem hk, B.pk_append, List.length_take, Nat.min_eq_left (by omega)]
  simp [B.pk, List.getD, List.getElem?_eq_getElem hk, Nat.mul_comm]

theorem pk_take_lt (w : Nat) (l : List Nat) (k : Nat) (hk : k ≤ l.length) (h : ∀ x ∈ l, x < 2 ^ w) : B.pk w (l.take k) < 2 ^ (k * w) := by
  have := B.pk_lt w (l.take k) (fun x hx => h x (List.mem_of_mem_take hx))
  rw [List.length_take, Nat.min_eq_left hk, Nat.mul_comm] at this
  exact this

set_option maxHeartbeats 1000000 in
set_option maxRecDepth 100000 in
theorem pack_some (b off c : Nat) (l : List Nat) (wide : Nat) (w : World) (h : wide ≤ 64) (hn : l.length ≤ 64) (hx : ∀ x ∈ l, x < 18446744073709551616) (hb : b < w.heap.size)
    (h1 : ∀ i, i < l.length → w.cell? ⟨b, off + i, none⟩ = some (.int .u64 ((l.getD i 0 : Nat) : Int))) (ho : B.wd l ≤ wide) :
    Calls Try.prog 54 #[.slice (some ⟨b, off, none⟩) l.length c, .int .i64 wide] w (PackPost (B.le (B.sz (l.length * wide)) (B.pk wide l), 0) w) := by
  obtain ⟨i0, hi, hz0, hz1, hz2⟩ := info_parts info_u8
  have g1 : decide ((wide : Int) < 0) = false := by simp
  have g2 : decide ((64 : Int) < (wide : Int)) = false := by simp; omega
  have hwd := width_some b off c l w (by unfold maxLen; omega) hx h1
  have HW := Lib.hid hwd
  have HF := Lib.hid ((B.wd_le l wide).1 ho)
  have H1 := Lib.hid h1
  have HX := Lib.hid hx
  have hmul : l.length * wide ≤ 64 * 64 := Nat.mul_le_mul hn h
  have hsz : 8 * B.sz (l.length * wide) ≥ l.length * wide ∧ B.sz (l.length * wide) ≤ 512 := by unfold B.sz; omega
  have hmulI : ((l.length : Int) * (wide : Int)) = ((l.length * wide : Nat) : Int) := by simp
  clear hwd hx h1
  generalize hM : l.length * wide = M at *
  have HM := Lib.hid hM
  clear hM
  go_enter Try.func54, Try.ntmps54
  go_wp2_with fail
  refine (HW.out).mono ?_
  rintro e w1 ⟨rfl, rfl⟩
  go_wp2_with fail
  refine (bsize_any M _ (by omega)).mono ?_
  rintro e w1 ⟨rfl, rfl⟩
  generalize hK : B.sz M = K at *
  have HK := Lib.hid hK
  clear hK
  go_wp2_with (at_make; refine wpList_make_full _ rfl _ _ 50 rfl w.heap.size 5 i0 (.int .u8 0) 1 Try.underlying50 hi hz0 hz1 .i64 .i64 _ _ K rfl rfl rfl rfl (by rw [hz2]; omega) (by unfold maxLen; omega) (Nat.le_refl _) ?_; intro w0 hown0 hgrow0)
  have hb0 : Below w.heap.size w w0 := (Below.refl _ _).grown hgrow0 (Nat.le_refl _) (fun k hk => by cases hk)
  have hblk0 := made_blk hown0
  clear hown0 hgrow0
  have hgsz : w.heap.size < w0.heap.size := hblk0.lt
  obtain ⟨g, hg⟩ : ∃ g, g = w.heap.size := ⟨_, rfl⟩
  rw [← hg] at hblk0 ⊢
  have HG := Lib.hid hg
  clear hg
  go_loopw [7, 8, 33] (fun _ _ i wr => ∃ k : Nat, k ≤ l.length ∧ i = .int .i64 k ∧ Blk wr g (B.le K (B.pk wide (l.take k))) ∧ Below w.heap.size w wr) (fun _ _ i _ => l.length - (intOf i).toNat)
  case atStart => exact ⟨0, by omega, rfl, hblk0, hb0⟩
  case round =>
    obtain ⟨k, hk, rfl, hblk, hbw⟩ := hrel
    by_cases hlt : k < l.length
    · have hcell : wr.cell? ⟨b, off + k, none⟩ = some (.int .u64 ((l.getD k 0 : Nat) : Int)) := by
        rw [hbw.cell (p := ⟨b, off + k, none⟩) hb]; exact H1.out k hlt
      have hxk := HF.out _ (getD_mem l k hlt)
      have HP := Lib.hid (pk_take wide l k hlt)
      have hV := pk_take_lt wide l k hk HF.out
      have hkw : k * wide + wide ≤ M := by
        rw [← HM.out, show k * wide + wide = (k + 1) * wide by rw [Nat.add_mul, Nat.one_mul]]; exact Nat.mul_le_mul_right _ (by omega)
      have hkI : ((k : Int) * (wide : Int)) = ((k * wide : Nat) : Int) := by simp
      generalize l.getD k 0 = x at *
      generalize B.pk wide (l.take k) = V at *
      have hput := put_any g K K (k * wide) wide x V wr h (by omega) (by omega) hV hxk hblk
      have HPUT := Lib.hid hput
      clear hput hV hxk
      generalize k * wide = f at *
      go_wp2_with fail
      refine (HPUT.out).mono ?_
      rintro e w2 ⟨rfl, hblk2, hbw2⟩
      go_wp2_with fail
      refine ⟨⟨k + 1, by omega, by go_num, by rw [HP.out]; exact hblk2, hbw.trans (hbw2.mono (by rw [HG.out]; exact Nat.le_refl _))⟩, by simp [intOf]; omega⟩
    · obtain rfl : k = l.length := by omega
      rw [List.take_length] at hblk
      have htx := hblk.text (cap := K)
      rw [B.le_length] at htx
      go_wp2_with fail
      go_ret2
      exact ⟨rfl, hbw⟩

set_option maxHeartbeats 400000 in
set_option maxRecDepth 100000 in
theorem pack_nil (a : Option Addr) (c : Nat) (wide : Nat) (w : World) (h : wide ≤ 64) :
    Calls Try.prog 54 #[.slice a 0 c, .int .i64 wide] w (PackPost ([], 0) w) := by
  obtain ⟨i0, hi, hz0, hz1, hz2⟩ := info_parts info_u8
  have g1 : decide ((wide : Int) < 0) = false := by simp
  have g2 : decide ((64 : Int) < (wide : Int)) = false := by simp; omega
  go_enter Try.func54, Try.ntmps54
  go_wp2_with fail
  refine (width_nil a c w).mono ?_
  rintro e w1 ⟨rfl, rfl⟩
  go_wp2_with fail
  refine (bsize_any 0 _ (by omega)).mono ?_
  rintro e w1 ⟨rfl, rfl⟩
  go_wp2_with (at_make; refine wpList_make_full _ rfl _ _ 50 rfl w.heap.size 5 i0 (.int .u8 0) 1 Try.underlying50 hi hz0 hz1 .i64 .i64 _ _ 0 rfl rfl rfl rfl (by rw [hz2]; omega) (by unfold maxLen; omega) (Nat.le_refl _) ?_; intro w0 hown0 hgrow0)
  have hb0 : Below w.heap.size w w0 := (Below.refl _ _).grown hgrow0 (Nat.le_refl _) (fun k hk => by cases hk)
  have htx := (made_blk hown0).text (cap := 0)
  simp only [B.le, List.length_nil] at htx
  refine wp_loop_rounds 1 ?_
  rw [rounds_succ]
  go_wp2_with fail
  go_ret2
  exact ⟨rfl, hb0⟩

theorem pack_any (a : Option Addr) (c : Nat) (l : List Nat) (wide : Int) (w : World) (hx : ∀ x ∈ l, x < 18446744073709551616) (hu : Nums w w.heap.size a l) :
    Calls Try.prog 54 #[.slice a l.length c, .int .i64 wide] w (PackPost (packR l wide) w) := by
  by_cases h0 : wide < 0 ∨ 64 < wide
  · rw [packR, if_pos h0]; exact pack_range a c _ wide w h0
  obtain ⟨n, rfl⟩ : ∃ n : Nat, wide = n := ⟨wide.toNat, by omega⟩
  rw [packR, if_neg h0]
  by_cases h1 : 64 < l.length
  · rw [if_pos h1]; exact pack_many a c _ n w (by omega) h1
  rw [if_neg h1, Int.toNat_natCast]
  by_cases h2 : n < B.wd l
  · rw [if_pos h2]; exact pack_over a c l n w _ (by omega) (by omega) hx hu h2
  rw [if_neg h2]
  by_cases hn : l = []
  · subst hn
    have e : B.le (B.sz (([] : List Nat).length * n)) (B.pk n []) = [] := by simp [B.sz, B.le]
    rw [e]; exact pack_nil a c n w (by omega)
  · obtain ⟨b, off, rfl, hb, hc⟩ := hu hn
    exact pack_some b off c l n w (by omega) (by omega) hx hb hc (by omega)
end Go.Proofs.Ytpjmpbpbfjemdaa
