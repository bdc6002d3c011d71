/- The walk of delta.Read. -/
import Derived.Test.YtpjmpbpbfjemdaaDW4
namespace Go.Proofs.Ytpjmpbpbfjemdaa
open Go.RowKit
set_option linter.unusedVariables false

def dread2 (p : Nat × List Nat × Nat) : List Nat × Nat := if p.2.2 ≠ 0 then ([], p.2.2) else (D.sums (p.1 :: D.zags p.2.1), 0)
def dreadR (s : List UInt8) (many : Int) : List Nat × Nat :=
  if many < 0 then ([], 3) else if 64 < many then ([], 2) else if many = 0 then ([], if s = [] then 0 else 1) else dread2 (parseR s many.toNat)

theorem parseR_facts (s : List UInt8) (many : Nat) : (parseR s many).1 < 18446744073709551616 ∧ (parseR s many).2.1.length ≤ many - 1 ∧ (∀ x ∈ (parseR s many).2.1, x < 18446744073709551616) ∧ ((parseR s many).2.2 = 0 ∨ (parseR s many).2.1 = []) := by
  unfold parseR
  by_cases h : (V.rd s).2.2 = 0
  · rw [if_neg (by simp [h])]
    obtain ⟨n, k, hr⟩ : ∃ n k, V.rd s = (n, k, 0) := ⟨_, _, by rw [← h]⟩
    obtain ⟨_, _, _, k4, _, _⟩ := V.rd_ok _ _ _ hr
    rw [hr]
    by_cases hl : s.length = k
    · rw [if_pos hl]; simp
    · rw [if_neg hl]
      have h1 := hreadR_lt (s.drop (k + 1)) ((many - 1 : Nat) : Int) ((s.getD k 0).toNat : Int)
      have h2 := hreadR_len (s.drop (k + 1)) ((many - 1 : Nat) : Int) ((s.getD k 0).toNat : Int)
      rw [Int.toNat_natCast] at h2
      simp only
      generalize hreadR (s.drop (k + 1)) ((many - 1 : Nat) : Int) ((s.getD k 0).toNat : Int) = r at *
      unfold parse2
      split
      · simp
      · split
        · simp
        · exact ⟨k4, h2, h1, Or.inl rfl⟩
  · rw [if_pos h]; simp

set_option maxHeartbeats 2000000 in
set_option maxRecDepth 100000 in
theorem along_zag2 (w : World) (a : Option Addr) (c : Nat) (l : List Nat) (hl : l.length ≤ 64) (hx : ∀ x ∈ l, x < 18446744073709551616) (hu : Nums w w.heap.size a l) :
    Calls Try.prog 37 #[.slice a l.length c, .func (.func 22) #[] #[]] w (fun e w2 => ∃ A c2, e = .returned (.slice (some A) (D.runF D.fzag 0 l).length c2) ∧ Nums w2 w2.heap.size (some A) (D.runF D.fzag 0 l) ∧ Below w.heap.size w w2) := by
  obtain ⟨i0, hi, hz0, hz1, hz2⟩ := info_parts info_u64
  have HU := Lib.hid hu
  have HX := Lib.hid hx
  have HST := Lib.hid (fun k hk => ublk_step D.fzag 0 l k hk)
  have HLN := Lib.hid (fun k hk => ublk_len D.fzag 0 l k hk)
  have HTK := Lib.hid (fun k hk => D.runF_take D.fzag 0 l k hk)
  have HRL := Lib.hid (D.runF_length D.fzag 0 l)
  clear hu hx
  go_enter Try.func37, Try.ntmps37
  go_wp2_with (at_make; refine wpList_make_full _ rfl _ _ 22 rfl w.heap.size 23 i0 (.int .u64 0) 1 Try.underlying22 hi hz0 hz1 .i64 .i64 _ _ l.length rfl rfl rfl rfl (by rw [hz2]; omega) (by unfold maxLen; omega) (Nat.le_refl _) ?_; intro w0 hown0 hgrow0)
  have hb0 : Below w.heap.size w w0 := (Below.refl _ _).grown hgrow0 (Nat.le_refl _) (fun k hk => by cases hk)
  have hblk := made_ublk hown0
  obtain ⟨g, hg⟩ : ∃ g, g = w.heap.size := ⟨_, rfl⟩
  rw [← hg] at hblk ⊢
  have hgl : w.heap.size ≤ g := by omega
  clear hg hown0 hgrow0
  go_wp2_with fail
  go_loopw [6, 7, 13] (fun _ _ i wr => ∃ k : Nat, k ≤ l.length ∧ i = .int .i64 k ∧ UBlk wr g (D.runF D.fzag 0 (l.take k) ++ List.replicate (l.length - k) 0) ∧ Below w.heap.size w wr) (fun _ _ i _ => l.length - (intOf i).toNat)
  case atStart => exact ⟨0, by omega, rfl, by simpa [D.runF] using hblk, hb0⟩
  case round =>
    obtain ⟨k, hk, rfl, hub, hbw⟩ := hrel
    by_cases hlt : k < l.length
    · obtain ⟨b, off, rfl, hb, hcc⟩ := HU.out (fun e => by rw [e] at hlt; simp at hlt)
      have ck := (hbw.cell (p := ⟨b, off + k, none⟩) hb).trans (hcc k hlt)
      have hxk := HX.out _ (getD_mem l k hlt)
      have HS := Lib.hid (show (D.runF D.fzag 0 (l.take k) ++ List.replicate (l.length - k) 0).set k (D.zag (l.getD k 0)) = _ from HST.out k hlt)
      have hln := HLN.out k hk
      have hcall := zag_any (l.getD k 0) wr hxk
      generalize l.getD k 0 = x at *
      generalize D.runF D.fzag 0 (l.take k) ++ List.replicate (l.length - k) 0 = acc at *
      generalize D.zag x = y at *
      have HC := Lib.hid hcall
      clear hcc hcall
      go_wp2_with fail
      refine (HC.out).mono ?_
      rintro e w1 ⟨rfl, rfl⟩
      have hub1 := hub
      have u1 := hub1.cell k (by omega)
      have u2 := hub1.free k
      have hub2 := hub1.put k y
      generalize acc.getD k 0 = oz at *
      clear hub1 hub
      have hkI : (k : Int) < (l.length : Int) := by omega
      go_wp2_with fail
      exact ⟨⟨k + 1, by omega, by go_num, by rw [← HS.out]; exact hub2, hbw.setCell (p := ⟨g, k, none⟩) hgl _⟩, by simp [intOf]; omega⟩
    · obtain rfl : k = l.length := by omega
      have hn := hub.nums
      rw [Nat.sub_self, List.replicate_zero, List.append_nil, List.take_length] at hn
      have HN := Lib.hid hn
      clear hn hub
      go_wp2_with fail
      go_ret
      exact ⟨⟨g, 0, none⟩, l.length, by rw [HRL.out]; rfl, HN.out, hbw⟩

set_option maxHeartbeats 1000000 in
set_option maxRecDepth 100000 in
theorem dread_in (s : ByteArray) (many : Nat) (w : World) (hs : s.size ≤ maxLen) (h1 : 1 ≤ many) (hm : many ≤ 64) :
    Calls Try.prog 25 #[.string s, .int .i64 many] w (AllPostC (dread2 (parseR s.data.toList many)) w) := by
  have hp := fun w => parse_any s many w hs h1 hm
  obtain ⟨f1, f2, f3, _⟩ := parseR_facts s.data.toList many
  generalize parseR s.data.toList many = p at *
  obtain ⟨n, zs, er⟩ := p
  simp only at f1 f2 f3
  have HP := Lib.hid hp
  clear hp
  have g1 : decide ((many : Int) < 0) = false := by simp
  have g2 : decide ((64 : Int) < (many : Int)) = false := by simp; omega
  have g3 : ((many : Int) == 0) = false := by rw [beq_eq_false_iff_ne]; omega
  unfold dread2
  simp only
  by_cases he : er = 0
  · subst he
    rw [if_neg (by simp)]
    have hzl : (D.runF D.fzag 0 zs).length = zs.length := D.runF_length _ _ _
    have hzz : D.runF D.fzag 0 zs = D.zags zs := D.run_zag 0 zs
    have HX3 := Lib.hid (fun (v' : Value) (w3 : World) (h : w3.ownsRow w.heap.size 23 1 v' (1 + zs.length) ((#[Value.int .u64 (n : Int)] : Array Value).toList ++ nv (D.runF D.fzag 0 zs))) => show NumRow w.heap.size (n :: D.zags zs) v' w3 by
      unfold NumRow; rw [hzz] at h; rw [List.length_cons, ← hzz, hzl, Nat.add_comm, hzz]; simpa [nv] using h)
    have HXX := Lib.hid (show ∀ x ∈ n :: D.zags zs, x < 18446744073709551616 by
      intro x hx
      rcases List.mem_cons.1 hx with h | h
      · omega
      · exact D.zags_lt zs f3 x h)
    have hsn : ¬ 64 < (n :: D.zags zs).length := by rw [List.length_cons, ← hzz, hzl]; omega
    have hsums := fun a c W h => sums_any a c (n :: D.zags zs) W HXX.out h
    rw [if_neg hsn] at hsums
    have HSUMS := Lib.hid hsums
    clear hsums
    go_enter Try.func25, Try.ntmps25
    go_wp2_with fail
    refine (HP.out _).mono ?_
    rintro e1 w1 ⟨A, c1, rfl, hn1, hlc1, hcm1, hb1⟩
    have hlit := World.ownsRow_lit (base := w.heap.size) (e := 23) (size := 1) w1 #[.int .u64 (n : Int)] 1 hb1.size (by decide) rfl
    have hb2 : Below w.heap.size w (w1.alloc (.cells #[.int .u64 (n : Int)] 23)) := hb1.alloc hb1.size _
    have hn2 := hn1.below ((Below.refl w1.heap.size w1).alloc (Nat.le_refl _) (.cells #[.int .u64 (n : Int)] 23))
    have HZ := Lib.hid (along_zag2 (w1.alloc (.cells #[.int .u64 (n : Int)] 23)) A c1 zs (by omega) f3 (hn2.mono (by simp)))
    go_wp2_with fail
    refine (HZ.out).mono ?_
    rintro e2 w2 ⟨Z, c2, rfl, hnz, hb3⟩
    have hrow2 := row_below hlit hb3
    have hb4 := below_then hb2 hb3
    have hsz4 := hb4.size
    rw [hzl]
    go_wp2_with (at_builtin; refine wpList_append_nums rfl (.tmp 36) (.tmp 38) rfl w.heap.size _ 1 _ rfl hrow2 (some Z) zs.length c2 (D.runF D.fzag 0 zs) hzl rfl (fun h => absurd h (by simp)) hnz (by omega) hsz4 ?_; intro v' w3 hown3 hgrow3)
    have hb5 : Below w.heap.size w w3 := hb4.grown hgrow3 hsz4 (fun k hk => (hrow2.lt k hk).1)
    have hrow3 : NumRow w.heap.size (n :: D.zags zs) v' w3 := HX3.out v' w3 hown3
    obtain ⟨a3, c3, rfl, hn3⟩ := numRow_nums hrow3
    go_wp2_with fail
    refine (HSUMS.out _ _ _ hn3).mono ?_
    rintro e4 w4 ⟨a4, c4, rfl, hn4, hlc4, hcm4, hb6⟩
    go_wp2_with fail
    go_ret2
    exact ⟨_, _, rfl, hn4, hlc4, hcm4, below_then hb5 hb6⟩
  · rw [if_pos he]
    have g4 : ((er : Int) != 0) = true := by rw [bne_iff_ne]; omega
    go_enter Try.func25, Try.ntmps25
    go_wp2_with fail
    refine (HP.out _).mono ?_
    rintro e1 w1 ⟨A, c1, rfl, hn1, hlc1, hcm1, hb1⟩
    go_wp2_with fail
    go_ret2
    exact ⟨none, 0, rfl, Nums.nil _ _ _, Nat.le_refl _, by unfold maxLen; omega, hb1⟩

theorem dread_any (s : ByteArray) (many : Int) (w : World) (hs : s.size ≤ maxLen) :
    Calls Try.prog 25 #[.string s, .int .i64 many] w (AllPostC (dreadR s.data.toList many) w) := by
  unfold dreadR
  by_cases h0 : many < 0
  · rw [if_pos h0]
    have g1 : decide (many < 0) = true := by simp; omega
    go_enter Try.func25, Try.ntmps25
    go_wp2_with fail
    go_ret2
    exact ⟨none, 0, rfl, Nums.nil _ _ _, Nat.le_refl _, by unfold maxLen; omega, Below.refl _ _⟩
  rw [if_neg h0]
  obtain ⟨m, rfl⟩ : ∃ m : Nat, many = m := ⟨many.toNat, by omega⟩
  have g1 : decide ((m : Int) < 0) = false := by simp
  by_cases h1 : 64 < (m : Int)
  · rw [if_pos h1]
    have g2 : decide ((64 : Int) < (m : Int)) = true := by simp; omega
    go_enter Try.func25, Try.ntmps25
    go_wp2_with fail
    go_ret2
    exact ⟨none, 0, rfl, Nums.nil _ _ _, Nat.le_refl _, by unfold maxLen; omega, Below.refl _ _⟩
  rw [if_neg h1]
  by_cases h2 : (m : Int) = 0
  · rw [if_pos h2]
    obtain rfl : m = 0 := by omega
    by_cases ht : s.size = 0
    · rw [if_pos (data_empty s ht)]
      have g5 := empty_true s ht
      go_enter Try.func25, Try.ntmps25
      go_wp2_with fail
      go_ret2
      exact ⟨none, 0, rfl, Nums.nil _ _ _, Nat.le_refl _, by unfold maxLen; omega, Below.refl _ _⟩
    · rw [if_neg (data_ne s ht)]
      have g5 := empty_false s ht
      go_enter Try.func25, Try.ntmps25
      go_wp2_with fail
      go_ret2
      exact ⟨none, 0, rfl, Nums.nil _ _ _, Nat.le_refl _, by unfold maxLen; omega, Below.refl _ _⟩
  rw [if_neg h2, Int.toNat_natCast]
  exact dread_in s m w hs (by omega) (by omega)
end Go.Proofs.Ytpjmpbpbfjemdaa
