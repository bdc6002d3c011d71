/- The walks of slices.Min, patch.frame, size, cost, best, Cost. -/
import Derived.Test.YtpjmpbpbfjemdaaPW1
import Derived.Test.YtpjmpbpbfjemdaaVaryW2
namespace Go.Proofs.Ytpjmpbpbfjemdaa
open Go.RowKit
set_option linter.unusedVariables false

theorem UBlk.row {w : World} {g B : Nat} {l : List Nat} (h : UBlk w g l) (hB : B ≤ g) (hm : l.length ≤ maxLen) : NumRow B l (.slice (some ⟨g, 0, none⟩) l.length l.length) w :=
  ⟨by simp [nv_length], Or.inr ⟨g, l.length, (nv l).toArray, rfl, hB, h, Nat.le_refl _, hm, by simp [nv_length], by rw [List.take_of_length_le (by simp [nv_length])]⟩⟩

set_option maxHeartbeats 1000000 in
set_option maxRecDepth 100000 in
theorem min_any (b off c : Nat) (l : List Nat) (w : World) (h0 : 0 < l.length) (hl : l.length ≤ 64)
    (hc : ∀ i, i < l.length → w.cell? ⟨b, off + i, none⟩ = some (.int .u64 ((l.getD i 0 : Nat) : Int))) :
    Calls Try.prog 72 #[.slice (some ⟨b, off, none⟩) l.length c] w fun e w' => e = .returned (.int .u64 (P.base l : Nat)) ∧ w = w' := by
  have HC := Lib.hid hc
  have c0 : w.cell? ⟨b, off, none⟩ = some (.int .u64 ((l.getD 0 0 : Nat) : Int)) := hc 0 h0
  have HB := Lib.hid (show P.base l = P.mn (l.getD 0 0) l by
    cases l with
    | nil => simp at h0
    | cons x t => exact (P.mn_self x t).symm)
  have HM1 := Lib.hid (show P.mn (l.getD 0 0) (l.take 1) = l.getD 0 0 by
    cases l with
    | nil => simp at h0
    | cons x t => simp [P.mn])
  have HTK := Lib.hid (fun k h => P.mn_take (l.getD 0 0) l k h)
  have h1I : ¬ (l.length : Int) < 1 := by omega
  have h1L : decide ((l.length : Int) < 1) = false := decide_eq_false h1I
  have h1N : ¬ l.length < 1 := by omega
  generalize l.getD 0 0 = x0 at *
  clear hc
  go_enter Try.func72, Try.ntmps72
  go_wp2_with fail
  go_loop [3, 4] (fun m i => ∃ k : Nat, 1 ≤ k ∧ k ≤ l.length ∧ i = .int .i64 k ∧ m = .int .u64 ((P.mn x0 (l.take k) : Nat) : Int)) (fun _ i => l.length - (intOf i).toNat)
  case atStart => exact ⟨1, by omega, by omega, rfl, by rw [HM1.out]⟩
  case round =>
    obtain ⟨k, hk1, hk, rfl, rfl⟩ := hrel
    by_cases hlt : k < l.length
    · have ck := HC.out k hlt
      have HT := Lib.hid (HTK.out k hlt)
      generalize l.getD k 0 = x at *
      generalize P.mn x0 (l.take k) = m at *
      go_wp2_with fail
      exact ⟨⟨k + 1, by omega, by omega, by go_num, by rw [HT.out]; congr 1; omega⟩, by simp [intOf]; omega⟩
    · obtain rfl : k = l.length := by omega
      rw [List.take_length]
      go_wp2_with fail
      go_ret
      exact ⟨by rw [HB.out]; rfl, rfl⟩

def FramePost (l : List Nat) (w : World) (e : Ending) (w' : World) : Prop :=
  ∃ a c, e = .returned (.tuple #[.int .u64 (P.base l : Nat), .slice a l.length c]) ∧ NumRow w.heap.size (P.more l) (.slice a l.length c) w' ∧ Below w.heap.size w w'

theorem ublk_more (l : List Nat) (k : Nat) (hk : k < l.length) :
    ((P.more l).take k ++ List.replicate (l.length - k) 0).set k (l.getD k 0 - P.base l) = (P.more l).take (k + 1) ++ List.replicate (l.length - (k + 1)) 0 := by
  have hm := P.more_length l
  have hlen : ((P.more l).take k).length = k := by rw [List.length_take]; omega
  rw [List.set_append_right _ _ (by omega), hlen, Nat.sub_self, show l.length - k = (l.length - (k + 1)) + 1 by omega, List.replicate_succ, List.set_cons_zero]
  rw [List.take_succ_eq_append_getElem (by omega), List.append_assoc]
  have := P.more_get l k hk
  rw [List.getD_eq_getElem?_getD, List.getElem?_eq_getElem (by omega), Option.getD_some] at this
  rw [this]; rfl

set_option maxHeartbeats 1000000 in
set_option maxRecDepth 100000 in
theorem frame_some (b off c : Nat) (l : List Nat) (w : World) (h0 : 0 < l.length) (hl : l.length ≤ 64) (hx : ∀ x ∈ l, x < 18446744073709551616) (hb : b < w.heap.size)
    (hc : ∀ i, i < l.length → w.cell? ⟨b, off + i, none⟩ = some (.int .u64 ((l.getD i 0 : Nat) : Int))) :
    Calls Try.prog 50 #[.slice (some ⟨b, off, none⟩) l.length c] w (FramePost l w) := by
  obtain ⟨i0, hi, hz0, hz1, hz2⟩ := info_parts info_u64
  have HC := Lib.hid hc
  have HMIN := Lib.hid (min_any b off c l w h0 hl hc)
  have HLE := Lib.hid (fun k (h : k < l.length) => P.base_le l _ (getD_mem l k h))
  have HLT := Lib.hid (fun k (h : k < l.length) => hx _ (getD_mem l k h))
  have HST := Lib.hid (fun k h => ublk_more l k h)
  have HML := Lib.hid (P.more_length l)
  have hM : (P.more l).length = l.length := P.more_length l
  have HLN := Lib.hid (fun k (h : k ≤ l.length) => show ((P.more l).take k ++ List.replicate (l.length - k) 0).length = l.length by rw [List.length_append, List.length_take, List.length_replicate, hM]; omega)
  have HEND := Lib.hid (show (P.more l).take l.length = P.more l by rw [← hM]; exact List.take_length)
  have g1 : ((l.length : Int) == 0) = false := by rw [beq_eq_false_iff_ne]; omega
  have HRES : ∀ a c' w', NumRow w.heap.size (P.more l) (.slice a l.length c') w' → Below w.heap.size w w' → FramePost l w (.returned (.tuple #[.int .u64 (P.base l : Nat), .slice a l.length c'])) w' := fun a c' w' h1 h2 => ⟨a, c', rfl, h1, h2⟩
  have HR := Lib.hid HRES
  generalize P.base l = bs at *
  generalize P.more l = mo at *
  clear hc hx hM HRES
  go_enter Try.func50, Try.ntmps50
  go_wp2_with fail
  refine (HMIN.out).mono ?_
  rintro e w1 ⟨rfl, rfl⟩
  go_wp2_with (at_make; refine wpList_make_full _ rfl _ _ 22 rfl w.heap.size 23 i0 (.int .u64 0) 1 Try.underlying22 hi hz0 hz1 .i64 .i64 _ _ l.length rfl rfl rfl rfl (by rw [hz2]; omega) (by unfold maxLen; omega) (Nat.le_refl _) ?_; intro w0 hown0 hgrow0)
  have hb0 : Below w.heap.size w w0 := (Below.refl _ _).grown hgrow0 (Nat.le_refl _) (fun k hk => by cases hk)
  have hblk := made_ublk hown0
  obtain ⟨g, hg⟩ : ∃ g, g = w.heap.size := ⟨_, rfl⟩
  rw [← hg] at hblk ⊢
  have hgl : w.heap.size ≤ g := by omega
  clear hg hown0 hgrow0
  go_wp2_with fail
  go_loopw [6, 7, 18] (fun _ _ i wr => ∃ k : Nat, k ≤ l.length ∧ i = .int .i64 k ∧ UBlk wr g (mo.take k ++ List.replicate (l.length - k) 0) ∧ Below w.heap.size w wr) (fun _ _ i _ => l.length - (intOf i).toNat)
  case atStart => exact ⟨0, by omega, rfl, by simpa using hblk, hb0⟩
  case round =>
    obtain ⟨k, hk, rfl, hub, hbw⟩ := hrel
    by_cases hlt : k < l.length
    · have ck := (hbw.cell (p := ⟨b, off + k, none⟩) hb).trans (HC.out k hlt)
      have hle := HLE.out k hlt
      have hlt64 := HLT.out k hlt
      have HS := Lib.hid (HST.out k hlt)
      have hln := HLN.out k hk
      generalize l.getD k 0 = x at *
      generalize mo.take k ++ List.replicate (l.length - k) 0 = acc at *
      have hw : IntKind.u64.wrap ((x : Int) - (bs : Int)) = ((x - bs : Nat) : Int) := by rw [IntKind.wrap_u64]; omega
      have hw2 : (x : Int) - (bs : Int) = ((x - bs : Nat) : Int) := by omega
      generalize x - bs = y at *
      have u1 := hub.cell k (by omega)
      have u2 := hub.free k
      have hub2 := hub.put k y
      generalize acc.getD k 0 = oz at *
      have hkI : (k : Int) < (l.length : Int) := by omega
      have HUB2 := Lib.hid hub2
      have HLN2 := Lib.hid hln
      have HLE2 := Lib.hid hle
      clear hub hub2 hln hle
      go_wp2_with fail
      exact ⟨⟨k + 1, by omega, by go_num, by rw [← HS.out]; exact HUB2.out, hbw.setCell (p := ⟨g, k, none⟩) hgl _⟩, by simp [intOf]; omega⟩
    · obtain rfl : k = l.length := by omega
      rw [Nat.sub_self, List.replicate_zero, List.append_nil, HEND.out] at hub
      have hrow := hub.row hgl (by rw [HML.out]; unfold maxLen; omega)
      rw [HML.out] at hrow
      have HROW := Lib.hid hrow
      clear hrow hub
      go_wp2_with fail
      go_ret2
      exact HR.out _ _ _ HROW.out hbw

set_option maxHeartbeats 400000 in
theorem frame_nil (a : Option Addr) (c : Nat) (w : World) :
    Calls Try.prog 50 #[.slice a 0 c] w (FramePost [] w) := by
  go_enter Try.func50, Try.ntmps50
  go_wp2_with fail
  go_ret2
  exact ⟨none, 0, rfl, nilRow _ _, Below.refl _ _⟩

theorem frame_any (a : Option Addr) (c : Nat) (l : List Nat) (w : World) (hl : l.length ≤ 64) (hx : ∀ x ∈ l, x < 18446744073709551616) (hu : Nums w w.heap.size a l) :
    Calls Try.prog 50 #[.slice a l.length c] w (FramePost l w) := by
  by_cases h : l = []
  · subst h; exact frame_nil a c w
  · obtain ⟨b, off, rfl, hb, hc⟩ := hu h
    exact frame_some b off c l w (by cases l with
      | nil => exact absurd rfl h
      | cons x t => simp) hl hx hb hc

set_option maxHeartbeats 400000 in
theorem psize_any (m k : Nat) (w : World) (hm : m ≤ 64) (hk : k ≤ 64) :
    Calls Try.prog 73 #[.int .i64 m, .int .i64 k] w fun e w' => e = .returned (.int .i64 (B.sz (m * k) : Nat)) ∧ w = w' := by
  have hmul := Nat.mul_le_mul hm hk
  have e1 : ((m : Int) * (k : Int)) = ((m * k : Nat) : Int) := by simp
  have hq : (((m * k : Nat) : Int) + 7) / 8 = (B.sz (m * k) : Nat) := by unfold B.sz; omega
  generalize hM : m * k = M at *
  have hw1 : IntKind.i64.wrap ((m : Int) * (k : Int)) = (M : Int) := by rw [e1, IntKind.wrap_i64]; omega
  generalize B.sz M = z at *
  go_enter Try.func73, Try.ntmps73
  go_wp2_with fail
  go_ret
  refine ⟨?_, rfl⟩
  rw [← hq]; rfl

/-- what places add -/
def addS (m ps : List Nat) : Nat := (ps.map fun a => 1 + V.sz (m.getD a 0)).sum
theorem addS_take (m ps : List Nat) (j : Nat) (h : j < ps.length) : addS m (ps.take (j + 1)) = addS m (ps.take j) + (1 + V.sz (m.getD (ps.getD j 0) 0)) := by
  unfold addS
  rw [List.take_succ_eq_append_getElem h, List.map_append, List.sum_append]
  simp only [List.map_cons, List.map_nil, List.sum_cons, List.sum_nil, List.getD_eq_getElem?_getD, List.getElem?_eq_getElem h, Option.getD_some, Nat.add_zero]
theorem addS_le (m ps : List Nat) : addS m ps ≤ 10 * ps.length := by
  unfold addS
  induction ps with
  | nil => simp
  | cons x t ih => have := V.sz_le (m.getD x 0); simp only [List.map_cons, List.sum_cons, List.length_cons]; omega

set_option maxHeartbeats 1000000 in
set_option maxRecDepth 100000 in
theorem cost_any (a : Option Addr) (c : Nat) (l : List Nat) (k : Nat) (w : World) (hk : k ≤ 64) (hl : l.length ≤ 64) (hx : ∀ x ∈ l, x < 18446744073709551616) (hu : Nums w w.heap.size a l) :
    Calls Try.prog 51 #[.slice a l.length c, .int .i64 k] w fun e w' => e = .returned (.int .i64 (P.cost k l : Nat)) ∧ Below w.heap.size w w' := by
  have HU := Lib.hid hu
  have HX := Lib.hid (fun k (h : k < l.length) => hx _ (getD_mem l k h))
  have HO := Lib.hid (outside_any a c l k w hk hl hu)
  have HZ := Lib.hid (fun W => psize_any l.length k W hl hk)
  have hmul := Nat.mul_le_mul hl hk
  have hzb : B.sz (l.length * k) ≤ 4096 := by unfold B.sz; omega
  have hpl := P.plc_len (P.out k) 0 l
  have HPL := Lib.hid (fun a (h : a ∈ P.plc (P.out k) 0 l) => show a < l.length by have := (P.plc_lt (P.out k) 0 l a h).2; omega)
  have HRES := Lib.hid (show P.cost k l = B.sz (l.length * k) + addS l (P.plc (P.out k) 0 l) from rfl)
  have HTK := Lib.hid (fun j h => addS_take l (P.plc (P.out k) 0 l) j h)
  have HLE := Lib.hid (fun ps => addS_le l ps)
  have HGM := Lib.hid (fun j (h : j < (P.plc (P.out k) 0 l).length) => getD_mem (P.plc (P.out k) 0 l) j h)
  generalize P.plc (P.out k) 0 l = ps at *
  generalize B.sz (l.length * k) = z at *
  clear hx hu hmul
  go_enter Try.func51, Try.ntmps51
  go_wp2_with fail
  refine (HZ.out _).mono ?_
  rintro e w1 ⟨rfl, rfl⟩
  go_wp2_with fail
  refine (HO.out).mono ?_
  rintro e w2 ⟨a2, c2, rfl, r2, hb2⟩
  have N2 := Lib.hid r2.nums
  clear r2
  go_wp2_with fail
  go_loopw [5, 7, 16] (fun s _ i wr => ∃ j : Nat, j ≤ ps.length ∧ i = .int .i64 j ∧ s = .int .i64 ((z + addS l (ps.take j) : Nat) : Int) ∧ Below w2.heap.size w2 wr) (fun _ _ i _ => ps.length - (intOf i).toNat)
  case atStart => exact ⟨0, by omega, rfl, by simp [addS], Below.refl _ _⟩
  case round =>
    obtain ⟨j, hj, rfl, rfl, hbw⟩ := hrel
    by_cases hlt : j < ps.length
    · obtain ⟨b2, off2, rfl, hb2l, hcc2⟩ := N2.out (fun e => by rw [e] at hlt; simp at hlt)
      have cj := (hbw.cell (p := ⟨b2, off2 + j, none⟩) hb2l).trans (hcc2 j hlt)
      have HT := Lib.hid (HTK.out j hlt)
      have hpj := HPL.out _ (HGM.out j hlt)
      have hle := HLE.out (ps.take j)
      rw [List.length_take] at hle
      generalize ps.getD j 0 = p at *
      obtain ⟨b, off, rfl, hb, hcc⟩ := HU.out (fun e => by rw [e] at hpj; simp at hpj)
      have cp := (hbw.cell (p := ⟨b, off + p, none⟩) (show b < w2.heap.size by have := hb2.size; omega)).trans ((hb2.cell (p := ⟨b, off + p, none⟩) hb).trans (hcc p hpj))
      have hxp := HX.out p hpj
      generalize l.getD p 0 = x at *
      have HW := Lib.hid (fun W => write_any x W hxp)
      have hel := V.enc_length x
      have hse : (str (V.enc x)).size = V.sz x := by rw [str_size, hel]
      have hs9 := V.sz_le x
      obtain ⟨t, ht⟩ : ∃ t, t = str (V.enc x) := ⟨_, rfl⟩
      rw [← ht] at hse
      have HW2 := Lib.hid (fun W => show Calls Try.prog 42 #[.int .u64 (x : Int)] W (fun e w' => e = .returned (.string t) ∧ Below W.heap.size W w') by rw [ht]; exact HW.out W)
      generalize addS l (ps.take j) = sm at *
      have HSE := Lib.hid hse
      have hts : t.size ≤ 9 := by omega
      have hjI : (j : Int) < (ps.length : Int) := by omega
      have hpI : (p : Int) < (l.length : Int) := by omega
      clear hcc hcc2 HW ht hel hse
      go_wp2_with fail
      refine (HW2.out _).mono ?_
      rintro e w3 ⟨rfl, hb3⟩
      go_wp2_with fail
      refine ⟨⟨j + 1, by omega, by go_num, by rw [HT.out, ← HSE.out]; congr 1; omega, below_then hbw hb3⟩, by simp [intOf]; omega⟩
    · obtain rfl : j = ps.length := by omega
      rw [List.take_length]
      go_wp2_with fail
      go_ret
      exact ⟨by rw [HRES.out]; rfl, below_then hb2 hbw⟩

set_option maxHeartbeats 1000000 in
set_option maxRecDepth 100000 in
theorem best_any (a : Option Addr) (c : Nat) (l : List Nat) (w : World) (hl : l.length ≤ 64) (hx : ∀ x ∈ l, x < 18446744073709551616) (hu : Nums w w.heap.size a l) :
    Calls Try.prog 52 #[.slice a l.length c] w fun e w' => e = .returned (.int .i64 (P.best l : Nat)) ∧ Below w.heap.size w w' := by
  have HC := Lib.hid (fun W (k : Nat) (hk : k ≤ 64) (h : Nums W W.heap.size a l) => cost_any a c l k W hk hl hx h)
  have HU := Lib.hid hu
  have HR := Lib.hid (show P.best l = P.upB (fun w => P.cost w l) 64 from rfl)
  obtain ⟨f, hf⟩ : ∃ f, f = fun w => P.cost w l := ⟨_, rfl⟩
  rw [← hf] at HR
  have HC2 := Lib.hid (fun W (k : Nat) (hk : k ≤ 64) (h : Nums W W.heap.size a l) => show Calls Try.prog 51 #[.slice a l.length c, .int .i64 k] W (fun e w' => e = .returned (.int .i64 (f k : Nat)) ∧ Below W.heap.size W w') by rw [hf]; exact HC.out W k hk h)
  clear hu hx HC hf
  have c0 := HC2.out w 0 (by omega) HU.out
  have HC0 := Lib.hid (show Calls Try.prog 51 #[.slice a l.length c, .int .i64 0] w (fun e w' => e = .returned (.int .i64 (f 0 : Nat)) ∧ Below w.heap.size w w') from c0)
  clear c0
  go_enter Try.func52, Try.ntmps52
  go_wp2_with fail
  refine (HC0.out).mono ?_
  rintro e w1 ⟨rfl, hb1⟩
  go_wp2_with fail
  go_loopw [3, 4, 5, 6, 9] (fun wd ls _ _ i wr => ∃ j u : Nat, j ≤ 65 ∧ i = .int .i64 j ∧ Hid (u = P.upB f (j - 1)) ∧ wd = .int .i64 u ∧ ls = .int .i64 (f u : Nat) ∧ Below w.heap.size w wr) (fun _ _ _ _ i _ => 65 - (intOf i).toNat)
  case atStart => exact ⟨0, 0, by omega, rfl, Lib.hid rfl, rfl, rfl, hb1⟩
  case round =>
    obtain ⟨j, u, hj, rfl, HUP, rfl, rfl, hbw⟩ := hrel
    by_cases hlt : j < 65
    · have HCJ := Lib.hid (HC2.out wr j (by omega) (HU.out.next hbw))
      by_cases hless : f j < f u
      · have hj0 : j ≠ 0 := fun e => by subst e; have := HUP.out; rw [this] at hless; exact absurd hless (Nat.lt_irrefl _)
        have HN := Lib.hid (show j = P.upB f (j + 1 - 1) by
          obtain ⟨i, rfl⟩ : ∃ i, j = i + 1 := ⟨j - 1, by omega⟩
          have h := HUP.out
          rw [Nat.add_sub_cancel] at h ⊢
          show _ = if _ then _ else _
          rw [← h, if_pos hless])
        have g1 : decide (f j < f u) = true := decide_eq_true hless
        clear hless hj0 HUP
        go_wp2_with fail
        refine (HCJ.out).mono ?_
        rintro e w2 ⟨rfl, hb2⟩
        go_wp2_with fail
        exact ⟨⟨j + 1, j, by omega, by go_num, HN, rfl, rfl, hbw.trans (hb2.mono hbw.size)⟩, by simp [intOf]; omega⟩
      · have HN := Lib.hid (show u = P.upB f (j + 1 - 1) by
          have h := HUP.out
          rw [Nat.add_sub_cancel]
          cases j with
          | zero => exact h
          | succ i =>
            rw [Nat.add_sub_cancel] at h
            show _ = if _ then _ else _
            rw [← h, if_neg hless])
        have g1 : decide (f j < f u) = false := decide_eq_false hless
        clear hless HUP
        go_wp2_with fail
        refine (HCJ.out).mono ?_
        rintro e w2 ⟨rfl, hb2⟩
        go_wp2_with fail
        exact ⟨⟨j + 1, u, by omega, by go_num, HN, rfl, rfl, hbw.trans (hb2.mono hbw.size)⟩, by simp [intOf]; omega⟩
    · obtain rfl : j = 65 := by omega
      have HFIN := Lib.hid (show u = P.best l by rw [HR.out]; exact HUP.out)
      go_wp2_with fail
      go_ret
      exact ⟨by rw [← HFIN.out]; rfl, hbw⟩

/-- what Cost answers -/
def costR (l : List Nat) (wide : Int) : Nat × Nat := if wide < 0 ∨ 64 < wide then (0, 3) else if 64 < l.length then (0, 2) else (P.cost wide.toNat (P.more l), 0)

set_option maxHeartbeats 1000000 in
set_option maxRecDepth 100000 in
theorem pcost_any (a : Option Addr) (c : Nat) (l : List Nat) (wide : Int) (w : World) (hx : ∀ x ∈ l, x < 18446744073709551616) (hu : Nums w w.heap.size a l) :
    Calls Try.prog 28 #[.slice a l.length c, .int .i64 wide] w fun e w' => e = .returned (.tuple #[.int .i64 (costR l wide).1, .int .i64 (costR l wide).2]) ∧ Below w.heap.size w w' := by
  unfold costR
  by_cases h0 : wide < 0 ∨ 64 < wide
  · rw [if_pos h0]
    by_cases h1 : wide < 0
    · have g1 : decide (wide < 0) = true := decide_eq_true h1
      go_enter Try.func28, Try.ntmps28
      go_wp2_with fail
      go_ret2
      exact ⟨rfl, Below.refl _ _⟩
    · have g1 : decide (wide < 0) = false := decide_eq_false h1
      have g2 : decide (64 < wide) = true := decide_eq_true (by omega)
      go_enter Try.func28, Try.ntmps28
      go_wp2_with fail
      go_ret2
      exact ⟨rfl, Below.refl _ _⟩
  rw [if_neg h0]
  obtain ⟨k, rfl⟩ : ∃ k : Nat, wide = k := ⟨wide.toNat, by omega⟩
  have g1 : decide ((k : Int) < 0) = false := decide_eq_false (by omega)
  have g2 : decide ((64 : Int) < (k : Int)) = false := decide_eq_false (by omega)
  by_cases h2 : 64 < l.length
  · rw [if_pos h2]
    have g3 : decide ((64 : Int) < (l.length : Int)) = true := decide_eq_true (by omega)
    go_enter Try.func28, Try.ntmps28
    go_wp2_with fail
    go_ret2
    exact ⟨rfl, Below.refl _ _⟩
  rw [if_neg h2, Int.toNat_natCast]
  have g3 : decide ((64 : Int) < (l.length : Int)) = false := decide_eq_false (by omega)
  have HF := Lib.hid (frame_any a c l w (by omega) hx hu)
  have hml := P.more_length l
  have hc := fun A c' W h => cost_any A c' (P.more l) k W (by omega) (by omega) (P.more_lt l hx) h
  rw [hml] at hc
  have HC := Lib.hid hc
  have HRN := Lib.hid (fun (A : Option Addr) (n c' B : Nat) (W : World) (h : NumRow B (P.more l) (.slice A n c') W) => show Nums W W.heap.size A (P.more l) by
    obtain ⟨a', c'', e, hn⟩ := numRow_nums h
    injection e with e1 e2 e3
    rw [e1]; exact hn)
  clear hx hc hml h0
  unfold FramePost at HF
  generalize P.more l = mo at *
  generalize P.cost k mo = co at *
  go_enter Try.func28, Try.ntmps28
  go_wp2_with fail
  refine (HF.out).mono ?_
  rintro e w1 ⟨a1, c1, rfl, hrow, hb1⟩
  go_wp2_with fail
  refine (HC.out _ _ _ (HRN.out _ _ _ _ _ hrow)).mono ?_
  rintro e w2 ⟨rfl, hb2⟩
  go_wp2_with fail
  go_ret2
  exact ⟨rfl, below_then hb1 hb2⟩
end Go.Proofs.Ytpjmpbpbfjemdaa
