/- The walk of delta.Write. -/
import Derived.Test.YtpjmpbpbfjemdaaDW2
import Derived.Test.YtpjmpbpbfjemdaaHW7
namespace Go.Proofs.Ytpjmpbpbfjemdaa
open Go.RowKit
set_option linter.unusedVariables false
attribute [local go_sem ↓] Go.wp_at_zero Go.wp_at_succ

/-- the Zigs of the differences behind the first one -/
def dz (l : List Nat) : List Nat := D.zigs ((D.diffs l).drop 1)
def dbytes (l : List Nat) : List UInt8 := if l = [] then [] else (V.enc (l.headD 0) ++ [UInt8.ofNat (B.wd (dz l))]) ++ H.bytes (B.wd (dz l)) (dz l)
def dwriteR (l : List Nat) : List UInt8 × Nat := if 64 < l.length then ([], 2) else (dbytes l, 0)
theorem dz_length (l : List Nat) : (dz l).length = l.length - 1 := by unfold dz D.zigs; rw [List.length_map, List.length_drop, D.diffs_length]
theorem dz_lt (l : List Nat) (hx : ∀ x ∈ l, x < 18446744073709551616) : ∀ y ∈ dz l, y < 18446744073709551616 :=
  D.zigs_lt _ (fun x h => D.diffs_lt l hx x (List.mem_of_mem_drop h))

theorem run_text_one (W : World) (g v : Nat) (hv : v < 256) (h : W.cell? ⟨g, 0, none⟩ = some (.int .u8 (v : Int))) :
    (convert 50 9 (.slice (some ⟨g, 0, none⟩) 1 1)).run Try.prog W = .ok (.string (str [UInt8.ofNat v])) W := by
  rw [← str_of [UInt8.ofNat v]]
  refine run_convert_bytes_arg _ 50 5 Try.underlying50 Try.underlying5 _ 0 1 1 _ (by simp) ?_ 9 Try.underlying9
  intro i hi
  obtain rfl : i = 0 := by omega
  rw [Nat.zero_add, h]
  simp
  omega

abbrev KD (bb o : Nat) (v : Value) (w W : World) : Prop := W.cell? ⟨bb, o, none⟩ = some v ∧ Below w.heap.size w W
theorem kd_drew {bb o : Nat} {v : Value} {w W : World} (h : KD bb o v w W) : KD bb o v w W.drew := ⟨h.1, h.2.drew⟩
theorem kd_below {bb o : Nat} {v : Value} {w W W' : World} (hk : Below W.heap.size W W') (h : KD bb o v w W) : KD bb o v w W' :=
  ⟨(hk.cell (p := ⟨bb, o, none⟩) (World.block_lt_of_cell? W _ h.1)).trans h.1, below_then h.2 hk⟩
theorem kd_alloc {bb o' : Nat} {v : Value} {w W : World} (o : Obj) (h : KD bb o' v w W) : KD bb o' v w (W.alloc o) := kd_below ((Below.refl _ _).alloc (Nat.le_refl _) o) h

set_option maxHeartbeats 400000 in
theorem dwrite_many (a : Option Addr) (c : Nat) (l : List Nat) (w : World) (hx : ∀ x ∈ l, x < 18446744073709551616) (hu : Nums w w.heap.size a l) (h : 64 < l.length) :
    Calls Try.prog 24 #[.slice a l.length c] w (PackPost ([], 2) w) := by
  have hd := diffs_any a c l w hx hu
  rw [if_pos h] at hd
  have HD := Lib.hid hd
  clear hd
  go_enter Try.func24, Try.ntmps24
  go_wp2_with fail
  refine (HD.out).mono ?_
  rintro e w1 ⟨A, c1, rfl, hn, hlc, hcm, hb1⟩
  go_wp2_with fail
  go_ret2
  exact ⟨rfl, hb1⟩

set_option maxHeartbeats 400000 in
theorem dwrite_nil (a : Option Addr) (c : Nat) (w : World) :
    Calls Try.prog 24 #[.slice a 0 c] w (PackPost ([], 0) w) := by
  have hd := diffs_any a c [] w (by simp) (Nums.nil _ _ _)
  have HD := Lib.hid (show Calls Try.prog 14 #[.slice a 0 c] w (AllPostC ([], 0) w) from hd)
  clear hd
  go_enter Try.func24, Try.ntmps24
  go_wp2_with fail
  refine (HD.out).mono ?_
  rintro e w1 ⟨A, c1, rfl, hn, hlc, hcm, hb1⟩
  go_wp2_with fail
  go_ret2
  exact ⟨rfl, hb1⟩

set_option maxHeartbeats 2000000 in
set_option maxRecDepth 100000 in
theorem dwrite_ok (a : Option Addr) (c : Nat) (l : List Nat) (w : World) (hx : ∀ x ∈ l, x < 18446744073709551616) (hu : Nums w w.heap.size a l) (h0 : l ≠ []) (hl : l.length ≤ 64) :
    Calls Try.prog 24 #[.slice a l.length c] w (PackPost (dbytes l, 0) w) := by
  have hp : 0 < l.length := List.length_pos_iff.2 h0
  obtain ⟨b, off, rfl, hb, hcc⟩ := hu h0
  have hhd : l.headD 0 = l.getD 0 0 := by cases l <;> rfl
  have hc0 := hcc 0 hp
  rw [← hhd, Nat.add_zero] at hc0
  have hx0 : l.headD 0 < 18446744073709551616 := by rw [hhd]; exact hx _ (getD_mem l 0 hp)
  have hd := diffs_any (some ⟨b, off, none⟩) c l w hx hu
  rw [if_neg (by omega)] at hd
  have hdl := D.diffs_length l
  have hdx := D.diffs_lt l hx
  have hzl := dz_length l
  have hzx := dz_lt l hx
  have hw64 := B.wd_64 (dz l) hzx
  have hal := fun W A c' h => along_zig W A c' ((D.diffs l).drop 1) (by rw [List.length_drop, hdl]; omega) (fun x h => hdx x (List.mem_of_mem_drop h)) h
  have hdz : D.runF D.fzig 0 ((D.diffs l).drop 1) = dz l := D.run_zig 0 _
  rw [hdz] at hal
  simp only [List.length_drop, hdl] at hal
  have hwd := fun W A c' h => width_any A c' (dz l) W W.heap.size (by rw [hzl]; unfold maxLen; omega) hzx h
  have hhw := fun W A c' hlc hcm h => hwrite_any A c' (dz l) (B.wd (dz l)) W hlc hcm hzx h
  have hpk : packR (dz l) (B.wd (dz l)) = (H.pkd (B.wd (dz l)) (dz l), 0) := by
    unfold packR
    rw [if_neg (by omega), if_neg (by rw [hzl]; omega), Int.toNat_natCast, if_neg (by omega)]; rfl
  have hok : hwriteR (dz l) (B.wd (dz l)) = (H.bytes (B.wd (dz l)) (dz l), 0) := by
    unfold hwriteR
    rw [hpk, Int.toNat_natCast]; simp
  have hbb := H.bytes_bound (B.wd (dz l)) (dz l) (by rw [hzl]; omega)
  have hmul : (dz l).length * B.wd (dz l) ≤ 64 * 64 := Nat.mul_le_mul (by rw [hzl]; omega) hw64
  obtain ⟨t1, ht1⟩ : ∃ t1, t1 = str (V.enc (l.headD 0)) := ⟨_, rfl⟩
  obtain ⟨t2, ht2⟩ : ∃ t2, t2 = str [UInt8.ofNat (B.wd (dz l))] := ⟨_, rfl⟩
  obtain ⟨t3, ht3⟩ : ∃ t3, t3 = str (H.bytes (B.wd (dz l)) (dz l)) := ⟨_, rfl⟩
  have HSUM := Lib.hid (show (t1 ++ t2) ++ t3 = str (dbytes l) by rw [ht1, ht2, ht3, str_append, str_append]; unfold dbytes; rw [if_neg h0])
  have hs1 : t1.size ≤ 9 := by rw [ht1, str_size, V.enc_length]; exact V.sz_le _
  have hs2 : t2.size = 1 := by rw [ht2]; rfl
  have hs3 : t3.size ≤ 1048576 := by rw [ht3, str_size]; omega
  have hcat1 : ¬ 9223372036854775807 < t1.size + 1 := by omega
  have hcat2 : ¬ 9223372036854775807 < t1.size + 1 + t3.size := by omega
  rw [hok] at hhw
  simp only [hzl] at hhw hwd
  have HD := Lib.hid hd
  have HAL := Lib.hid hal
  have HWD := Lib.hid hwd
  have HHW := Lib.hid (fun W A c' hlc hcm h => show Calls Try.prog 41 #[.slice A (l.length - 1) c', .int .i64 (B.wd (dz l))] W (fun e w' => e = .returned (.tuple #[.string t3, .int .i64 0]) ∧ Below W.heap.size W w') by rw [ht3]; exact hhw W A c' hlc hcm h)
  have HVW := Lib.hid (fun W => show Calls Try.prog 42 #[.int .u64 (l.headD 0 : Nat)] W (fun e w' => e = .returned (.string t1) ∧ Below W.heap.size W w') by rw [ht1]; exact write_any (l.headD 0) W hx0)
  have hconv := fun W g (h : W.cell? ⟨g, 0, none⟩ = some (.int .u8 ((B.wd (dz l) : Nat) : Int))) => run_text_one W g (B.wd (dz l)) (by omega) h
  rw [← ht2] at hconv
  have hcv : ∀ (W : World) (g : Nat), g = W.heap.size → (convert 50 9 (.slice (some ⟨g, 0, none⟩) 1 1)).run Try.prog (W.alloc (.cells #[.int .u8 ((B.wd (dz l) : Nat) : Int)] 5)) = .ok (.string t2) (W.alloc (.cells #[.int .u8 ((B.wd (dz l) : Nat) : Int)] 5)) :=
    fun W g hg => hconv _ g (by rw [hg, World.cell?_alloc_new]; rfl)
  have hcv2 : ∀ (W : World) (g : Nat), g = W.heap.size → (convert 50 9 (.slice (some ⟨g, 0, none⟩) 1 1)).run Try.prog (W.alloc (.cells #[.int .u8 ((B.wd (dz l) : Nat) : Int)] 5)).drew = .ok (.string t2) (W.alloc (.cells #[.int .u8 ((B.wd (dz l) : Nat) : Int)] 5)).drew :=
    fun W g hg => hconv _ g (show (W.alloc (.cells #[.int .u8 ((B.wd (dz l) : Nat) : Int)] 5)).cell? ⟨g, 0, none⟩ = _ by rw [hg, World.cell?_alloc_new]; rfl)
  have HCONV := Lib.hid hconv
  clear hconv ht2
  have hwr8 : IntKind.u8.wrap ((B.wd (dz l) : Nat) : Int) = ((B.wd (dz l) : Nat) : Int) := by
    rw [IntKind.wrap_u8]; omega
  clear hd hal hwd hhw hx hdx ht1 ht3 hhd hcc hdz
  generalize B.wd (dz l) = wd at *
  generalize dz l = z at *
  generalize D.diffs l = d at *
  have hdp : 0 < d.length := by omega
  have hone : 1 ≤ l.length := hp
  have hlz : ((l.length : Int) == 0) = false := by simp; exact h0
  go_enter Try.func24, Try.ntmps24
  go_wp2_with fail
  refine (HD.out).mono ?_
  rintro e w1 ⟨A, c1, rfl, hn, hlc, hcm, hb1⟩
  obtain ⟨bA, oA, rfl, hbA, hcA⟩ := hn (List.length_pos_iff.1 hdp)
  have hnd : Nums w1 w1.heap.size (some ⟨bA, oA + 1, none⟩) (d.drop 1) := hn.drop 1
  have hlc' : d.length ≤ c1 := hlc
  have hnd0 : c1 = 1 → Nums w1 w1.heap.size (some ⟨bA, oA, none⟩) (d.drop 1) := fun e h => absurd (List.drop_eq_nil_of_le (by omega)) h
  rw [hdl] at hlc ⊢
  clear hdl hu hpk hok hbb hmul
  go_wp2_with fail
  case inl =>
    refine (HAL.out _ _ _ (hnd0 (by omega))).mono ?_
    rintro e w2 ⟨Z, c2, rfl, hz2, hlc2, hcm2, hb2⟩
    go_wp2_with fail
    refine (HWD.out _ _ _ hz2).mono ?_
    rintro e w3 ⟨rfl, rfl⟩
    go_wp2_with fail
    refine (HHW.out _ _ _ (by omega) hcm2 hz2).mono ?_
    rintro e w4 ⟨rfl, hb4⟩
    have h4 : Below w.heap.size w w4 := below_then (below_then hb1 hb2) hb4
    have hsz := h4.size
    have hc4 : w4.cell? ⟨b, off, none⟩ = some (.int .u64 ((l.headD 0 : Nat) : Int)) := by rw [(bcell h4).1 b off hb]; exact hc0
    clear hc0 HD HAL HWD HHW hz2 hn hcA hnd hb1 hb2 hb4
    go_wp2_with fail
    have hS0 : KD b off (.int .u64 ((l.headD 0 : Nat) : Int)) w w4 := ⟨hc4, h4⟩
    generalize l.headD 0 = x at *
    have hbl : b < w4.heap.size := by omega
    go_region_with (go_at_call 42; refine (HVW.out _).mono ?_; rintro e w5 ⟨rfl, hb5⟩; have hfin : Below w.heap.size w w5 := (by first | exact below_then h4 hb5 | exact below_then h4.drew hb5 | exact below_then (h4.alloc hsz _) hb5 | exact below_then (h4.alloc hsz _).drew hb5 | exact below_then (h4.drew.alloc hsz _) hb5 | exact below_then (h4.drew.alloc hsz _).drew hb5); try have hcg := HCONV.out w5 w4.heap.size ((hb5.cell (p := ⟨w4.heap.size, 0, none⟩) (by simp)).trans (World.cell?_alloc_new w4 _ _ 0)))
    all_goals
      go_wp2_with fail
      go_ret2
      exact ⟨by rw [← HSUM.out]; rfl, by first | exact hfin | exact hfin.alloc hfin.size _ | exact hfin.drew | exact (hfin.alloc hfin.size _).drew | exact hfin.drew.alloc hfin.size _⟩
  case inr =>
    refine (HAL.out _ _ _ hnd).mono ?_
    rintro e w2 ⟨Z, c2, rfl, hz2, hlc2, hcm2, hb2⟩
    go_wp2_with fail
    refine (HWD.out _ _ _ hz2).mono ?_
    rintro e w3 ⟨rfl, rfl⟩
    go_wp2_with fail
    refine (HHW.out _ _ _ (by omega) hcm2 hz2).mono ?_
    rintro e w4 ⟨rfl, hb4⟩
    have h4 : Below w.heap.size w w4 := below_then (below_then hb1 hb2) hb4
    have hsz := h4.size
    have hc4 : w4.cell? ⟨b, off, none⟩ = some (.int .u64 ((l.headD 0 : Nat) : Int)) := by rw [(bcell h4).1 b off hb]; exact hc0
    clear hc0 HD HAL HWD HHW hz2 hn hcA hnd hb1 hb2 hb4
    go_wp2_with fail
    have hS0 : KD b off (.int .u64 ((l.headD 0 : Nat) : Int)) w w4 := ⟨hc4, h4⟩
    generalize l.headD 0 = x at *
    have hbl : b < w4.heap.size := by omega
    go_region_with (go_at_call 42; refine (HVW.out _).mono ?_; rintro e w5 ⟨rfl, hb5⟩; have hfin : Below w.heap.size w w5 := (by first | exact below_then h4 hb5 | exact below_then h4.drew hb5 | exact below_then (h4.alloc hsz _) hb5 | exact below_then (h4.alloc hsz _).drew hb5 | exact below_then (h4.drew.alloc hsz _) hb5 | exact below_then (h4.drew.alloc hsz _).drew hb5); try have hcg := HCONV.out w5 w4.heap.size ((hb5.cell (p := ⟨w4.heap.size, 0, none⟩) (by simp)).trans (World.cell?_alloc_new w4 _ _ 0)))
    all_goals
      go_wp2_with fail
      go_ret2
      exact ⟨by rw [← HSUM.out]; rfl, by first | exact hfin | exact hfin.alloc hfin.size _ | exact hfin.drew | exact (hfin.alloc hfin.size _).drew | exact hfin.drew.alloc hfin.size _⟩

theorem dwrite_any (a : Option Addr) (c : Nat) (l : List Nat) (w : World) (hx : ∀ x ∈ l, x < 18446744073709551616) (hu : Nums w w.heap.size a l) :
    Calls Try.prog 24 #[.slice a l.length c] w (PackPost (dwriteR l) w) := by
  unfold dwriteR
  by_cases h : 64 < l.length
  · rw [if_pos h]; exact dwrite_many a c l w hx hu h
  · rw [if_neg h]
    by_cases h0 : l = []
    · subst h0; exact dwrite_nil a c w
    · exact dwrite_ok a c l w hx hu h0 (by omega)
end Go.Proofs.Ytpjmpbpbfjemdaa
