/- The walks of delta.along with each of its functions; of delta.Diffs, delta.Sums. -/
import Derived.Test.YtpjmpbpbfjemdaaDW1
namespace Go.Proofs.Ytpjmpbpbfjemdaa
open Go.RowKit
set_option linter.unusedVariables false

def NumsC (l : List Nat) (B : Nat) (w : World) (e : Ending) (w' : World) : Prop :=
  ∃ a c, e = .returned (.slice a l.length c) ∧ Nums w' w'.heap.size a l ∧ l.length ≤ c ∧ c ≤ maxLen ∧ Below B w w'

theorem grown_set (W : World) (g k : Nat) (v : Value) : W.grownBy (W.setCell ⟨g, k, none⟩ v) (some g) :=
  ⟨rfl, rfl, rfl, by simp [World.setCell], fun j hj hne => by
    have hne' : ¬ g = j := fun e => hne (by rw [e])
    simp [World.setCell, Array.getElem?_modify, hne']⟩

theorem ublk_step (f : Nat → Nat → Nat × Nat) (b : Nat) (l : List Nat) (k : Nat) (hk : k < l.length) :
    (D.runF f b (l.take k) ++ List.replicate (l.length - k) 0).set k (f (D.endF f b (l.take k)) (l.getD k 0)).2 = D.runF f b (l.take (k + 1)) ++ List.replicate (l.length - (k + 1)) 0 := by
  have hlen : (D.runF f b (l.take k)).length = k := by rw [D.runF_length, List.length_take]; omega
  rw [(D.runF_take f b l k hk).1, List.set_append_right _ _ (by omega), hlen, Nat.sub_self, show l.length - k = (l.length - (k + 1)) + 1 by omega, List.replicate_succ, List.set_cons_zero, List.append_assoc]
  rfl
theorem ublk_len (f : Nat → Nat → Nat × Nat) (b : Nat) (l : List Nat) (k : Nat) (hk : k ≤ l.length) : (D.runF f b (l.take k) ++ List.replicate (l.length - k) 0).length = l.length := by
  rw [List.length_append, D.runF_length, List.length_take, List.length_replicate]; omega

set_option maxHeartbeats 2000000 in
set_option maxRecDepth 100000 in
theorem along_d (w : World) (base B b0 : Nat) (hbB : base ≤ B) (hB : Boxed w B 23 (.int .u64 b0)) (hb0 : b0 < 18446744073709551616) (a : Option Addr) (c : Nat) (l : List Nat) (hl : l.length ≤ 64) (hx : ∀ x ∈ l, x < 18446744073709551616) (hu : Nums w base a l) :
    Calls Try.prog 37 #[.slice a l.length c, .func (.func 38) #[] #[.pointer (some ⟨B, 0, none⟩)]] w (NumsC (D.runF D.fd b0 l) base w) := by
  obtain ⟨i0, hi, hz0, hz1, hz2⟩ := info_parts info_u64
  have HU := Lib.hid hu
  have HX := Lib.hid hx
  have HST := Lib.hid (fun k hk => ublk_step D.fd b0 l k hk)
  have HLN := Lib.hid (fun k hk => ublk_len D.fd b0 l k hk)
  have HTK := Lib.hid (fun k hk => D.runF_take D.fd b0 l k hk)
  have HRL := Lib.hid (D.runF_length D.fd b0 l)
  have HEL := Lib.hid (fun k => D.endF_lt D.fd (fun b x hb hx => (D.fd_lt b x hb hx).1) b0 hb0 (l.take k) (fun x h => hx x (List.mem_of_mem_take h)))
  have hBlt := hB.lt
  have hbs : base ≤ w.heap.size := by omega
  clear hu hx
  go_enter Try.func37, Try.ntmps37
  go_wp2_with (at_make; refine wpList_make_full _ rfl _ _ 22 rfl w.heap.size 23 i0 (.int .u64 0) 1 Try.underlying22 hi hz0 hz1 .i64 .i64 _ _ l.length rfl rfl rfl rfl (by rw [hz2]; omega) (by unfold maxLen; omega) (Nat.le_refl _) ?_; intro w0 hown0 hgrow0)
  have hb0w : Below w.heap.size w w0 := (Below.refl _ _).grown hgrow0 (Nat.le_refl _) (fun k hk => by cases hk)
  have hblk := made_ublk hown0
  obtain ⟨g, hg⟩ : ∃ g, g = w.heap.size := ⟨_, rfl⟩
  rw [← hg] at hblk ⊢
  have hgl : w.heap.size ≤ g := by omega
  clear hg hown0 hgrow0
  have hB0 : Boxed w0 B 23 (.int .u64 b0) := (hb0w.block B hB.lt).trans hB
  go_wp2_with fail
  go_loopw [6, 7, 13] (fun _ _ i wr => ∃ k : Nat, k ≤ l.length ∧ i = .int .i64 k ∧ UBlk wr g (D.runF D.fd b0 (l.take k) ++ List.replicate (l.length - k) 0) ∧ Boxed wr B 23 (.int .u64 (D.endF D.fd b0 (l.take k))) ∧ Below base w wr) (fun _ _ i _ => l.length - (intOf i).toNat)
  case atStart => exact ⟨0, by omega, rfl, by simpa [D.runF] using hblk, hB0, hb0w.mono hbs⟩
  case round =>
    obtain ⟨k, hk, rfl, hub, hBx, hbw⟩ := hrel
    by_cases hlt : k < l.length
    · obtain ⟨b, off, rfl, hb, hcc⟩ := HU.out (fun e => by rw [e] at hlt; simp at hlt)
      have ck := (hbw.cell (p := ⟨b, off + k, none⟩) hb).trans (hcc k hlt)
      have hxk := HX.out _ (getD_mem l k hlt)
      have HS := Lib.hid (HST.out k hlt)
      have hln := HLN.out k hk
      have hel := HEL.out k
      have HTE := Lib.hid ((HTK.out k hlt).2)
      have hcall := dclos_any B (D.endF D.fd b0 (l.take k)) (l.getD k 0) wr hBx hel hxk
      generalize l.getD k 0 = x at *
      generalize D.runF D.fd b0 (l.take k) ++ List.replicate (l.length - k) 0 = acc at *
      generalize D.endF D.fd b0 (l.take k) = st at *
      have HC := Lib.hid hcall
      clear hcc hcall
      go_wp2_with fail
      refine (HC.out).mono ?_
      rintro e w1 ⟨rfl, rfl⟩
      have hneg : g ≠ B := by omega
      generalize (D.fd st x).2 = y at *
      obtain ⟨st2, hst2⟩ : ∃ st2, st2 = (D.fd st x).1 := ⟨_, rfl⟩
      rw [← hst2] at HTE ⊢
      have hB1 := hBx.set (.int .u64 st2)
      have hgs := grownBy_setCell' wr B (.int .u64 (st2 : Int))
      have hub1 : UBlk (wr.setCell ⟨B, 0, none⟩ (.int .u64 (st2 : Int))) g acc := (hgs.block g hub.lt (fun e => hneg (by injection e))).trans hub
      have hbw1 : Below base w (wr.setCell ⟨B, 0, none⟩ (.int .u64 (st2 : Int))) := hbw.setCell (p := ⟨B, 0, none⟩) hbB _
      have u1 := hub1.cell k (by omega)
      have u2 := hub1.free k
      have hub2 := hub1.put k y
      generalize acc.getD k 0 = oz at *
      obtain ⟨W1, hW1⟩ : ∃ W1, W1 = wr.setCell ⟨B, 0, none⟩ (.int .u64 (st2 : Int)) := ⟨_, rfl⟩
      rw [← hW1] at hub2 hB1 hbw1 u1 u2 ⊢
      have hgs2 := grown_set W1 g k (.int .u64 (y : Int))
      have hB2 : Boxed (W1.setCell ⟨g, k, none⟩ (.int .u64 (y : Int))) B 23 (.int .u64 st2) := (hgs2.block B hB1.lt (fun e => hneg (by injection e with e; exact e.symm))).trans hB1
      clear hW1 hst2 hgs hgs2 hub1 hub hneg
      have hkI : (k : Int) < (l.length : Int) := by omega
      go_wp2_with fail
      exact ⟨⟨k + 1, by omega, by go_num, by rw [← HS.out]; exact hub2, by rw [HTE.out]; exact hB2, hbw1.setCell (p := ⟨g, k, none⟩) (show base ≤ g by omega) _⟩, by simp [intOf]; omega⟩
    · obtain rfl : k = l.length := by omega
      have hn := hub.nums
      rw [Nat.sub_self, List.replicate_zero, List.append_nil, List.take_length] at hn
      have HN := Lib.hid hn
      clear hn hub
      go_wp2_with fail
      go_ret
      exact ⟨some ⟨g, 0, none⟩, l.length, by rw [HRL.out]; rfl, HN.out, by rw [HRL.out]; exact Nat.le_refl _, by unfold maxLen; omega, hbw⟩

set_option maxHeartbeats 2000000 in
set_option maxRecDepth 100000 in
theorem along_s (w : World) (base B b0 : Nat) (hbB : base ≤ B) (hB : Boxed w B 23 (.int .u64 b0)) (hb0 : b0 < 18446744073709551616) (a : Option Addr) (c : Nat) (l : List Nat) (hl : l.length ≤ 64) (hx : ∀ x ∈ l, x < 18446744073709551616) (hu : Nums w base a l) :
    Calls Try.prog 37 #[.slice a l.length c, .func (.func 39) #[] #[.pointer (some ⟨B, 0, none⟩)]] w (NumsC (D.runF D.fs b0 l) base w) := by
  obtain ⟨i0, hi, hz0, hz1, hz2⟩ := info_parts info_u64
  have HU := Lib.hid hu
  have HX := Lib.hid hx
  have HST := Lib.hid (fun k hk => ublk_step D.fs b0 l k hk)
  have HLN := Lib.hid (fun k hk => ublk_len D.fs b0 l k hk)
  have HTK := Lib.hid (fun k hk => D.runF_take D.fs b0 l k hk)
  have HRL := Lib.hid (D.runF_length D.fs b0 l)
  have HEL := Lib.hid (fun k => D.endF_lt D.fs (fun b x hb hx => (D.fs_lt b x hb hx).1) b0 hb0 (l.take k) (fun x h => hx x (List.mem_of_mem_take h)))
  have hBlt := hB.lt
  have hbs : base ≤ w.heap.size := by omega
  clear hu hx
  go_enter Try.func37, Try.ntmps37
  go_wp2_with (at_make; refine wpList_make_full _ rfl _ _ 22 rfl w.heap.size 23 i0 (.int .u64 0) 1 Try.underlying22 hi hz0 hz1 .i64 .i64 _ _ l.length rfl rfl rfl rfl (by rw [hz2]; omega) (by unfold maxLen; omega) (Nat.le_refl _) ?_; intro w0 hown0 hgrow0)
  have hb0w : Below w.heap.size w w0 := (Below.refl _ _).grown hgrow0 (Nat.le_refl _) (fun k hk => by cases hk)
  have hblk := made_ublk hown0
  obtain ⟨g, hg⟩ : ∃ g, g = w.heap.size := ⟨_, rfl⟩
  rw [← hg] at hblk ⊢
  have hgl : w.heap.size ≤ g := by omega
  clear hg hown0 hgrow0
  have hB0 : Boxed w0 B 23 (.int .u64 b0) := (hb0w.block B hB.lt).trans hB
  go_wp2_with fail
  go_loopw [6, 7, 13] (fun _ _ i wr => ∃ k : Nat, k ≤ l.length ∧ i = .int .i64 k ∧ UBlk wr g (D.runF D.fs b0 (l.take k) ++ List.replicate (l.length - k) 0) ∧ Boxed wr B 23 (.int .u64 (D.endF D.fs b0 (l.take k))) ∧ Below base w wr) (fun _ _ i _ => l.length - (intOf i).toNat)
  case atStart => exact ⟨0, by omega, rfl, by simpa [D.runF] using hblk, hB0, hb0w.mono hbs⟩
  case round =>
    obtain ⟨k, hk, rfl, hub, hBx, hbw⟩ := hrel
    by_cases hlt : k < l.length
    · obtain ⟨b, off, rfl, hb, hcc⟩ := HU.out (fun e => by rw [e] at hlt; simp at hlt)
      have ck := (hbw.cell (p := ⟨b, off + k, none⟩) hb).trans (hcc k hlt)
      have hxk := HX.out _ (getD_mem l k hlt)
      have HS := Lib.hid (HST.out k hlt)
      have hln := HLN.out k hk
      have hel := HEL.out k
      have HTE := Lib.hid ((HTK.out k hlt).2)
      have hcall := sclos_any B (D.endF D.fs b0 (l.take k)) (l.getD k 0) wr hBx hel hxk
      generalize l.getD k 0 = x at *
      generalize D.runF D.fs b0 (l.take k) ++ List.replicate (l.length - k) 0 = acc at *
      generalize D.endF D.fs b0 (l.take k) = st at *
      have HC := Lib.hid hcall
      clear hcc hcall
      go_wp2_with fail
      refine (HC.out).mono ?_
      rintro e w1 ⟨rfl, rfl⟩
      have hneg : g ≠ B := by omega
      generalize (D.fs st x).2 = y at *
      obtain ⟨st2, hst2⟩ : ∃ st2, st2 = (D.fs st x).1 := ⟨_, rfl⟩
      rw [← hst2] at HTE ⊢
      have hB1 := hBx.set (.int .u64 st2)
      have hgs := grownBy_setCell' wr B (.int .u64 (st2 : Int))
      have hub1 : UBlk (wr.setCell ⟨B, 0, none⟩ (.int .u64 (st2 : Int))) g acc := (hgs.block g hub.lt (fun e => hneg (by injection e))).trans hub
      have hbw1 : Below base w (wr.setCell ⟨B, 0, none⟩ (.int .u64 (st2 : Int))) := hbw.setCell (p := ⟨B, 0, none⟩) hbB _
      have u1 := hub1.cell k (by omega)
      have u2 := hub1.free k
      have hub2 := hub1.put k y
      generalize acc.getD k 0 = oz at *
      obtain ⟨W1, hW1⟩ : ∃ W1, W1 = wr.setCell ⟨B, 0, none⟩ (.int .u64 (st2 : Int)) := ⟨_, rfl⟩
      rw [← hW1] at hub2 hB1 hbw1 u1 u2 ⊢
      have hgs2 := grown_set W1 g k (.int .u64 (y : Int))
      have hB2 : Boxed (W1.setCell ⟨g, k, none⟩ (.int .u64 (y : Int))) B 23 (.int .u64 st2) := (hgs2.block B hB1.lt (fun e => hneg (by injection e with e; exact e.symm))).trans hB1
      clear hW1 hst2 hgs hgs2 hub1 hub hneg
      have hkI : (k : Int) < (l.length : Int) := by omega
      go_wp2_with fail
      exact ⟨⟨k + 1, by omega, by go_num, by rw [← HS.out]; exact hub2, by rw [HTE.out]; exact hB2, hbw1.setCell (p := ⟨g, k, none⟩) (show base ≤ g by omega) _⟩, by simp [intOf]; omega⟩
    · obtain rfl : k = l.length := by omega
      have hn := hub.nums
      rw [Nat.sub_self, List.replicate_zero, List.append_nil, List.take_length] at hn
      have HN := Lib.hid hn
      clear hn hub
      go_wp2_with fail
      go_ret
      exact ⟨some ⟨g, 0, none⟩, l.length, by rw [HRL.out]; rfl, HN.out, by rw [HRL.out]; exact Nat.le_refl _, by unfold maxLen; omega, hbw⟩

set_option maxHeartbeats 2000000 in
set_option maxRecDepth 100000 in
theorem along_zig (w : World) (a : Option Addr) (c : Nat) (l : List Nat) (hl : l.length ≤ 64) (hx : ∀ x ∈ l, x < 18446744073709551616) (hu : Nums w w.heap.size a l) :
    Calls Try.prog 37 #[.slice a l.length c, .func (.func 20) #[] #[]] w (NumsC (D.runF D.fzig 0 l) w.heap.size w) := by
  obtain ⟨i0, hi, hz0, hz1, hz2⟩ := info_parts info_u64
  have HU := Lib.hid hu
  have HX := Lib.hid hx
  have HST := Lib.hid (fun k hk => ublk_step D.fzig 0 l k hk)
  have HLN := Lib.hid (fun k hk => ublk_len D.fzig 0 l k hk)
  have HTK := Lib.hid (fun k hk => D.runF_take D.fzig 0 l k hk)
  have HRL := Lib.hid (D.runF_length D.fzig 0 l)
  clear hu hx
  go_enter Try.func37, Try.ntmps37
  go_wp2_with (at_make; refine wpList_make_full _ rfl _ _ 22 rfl w.heap.size 23 i0 (.int .u64 0) 1 Try.underlying22 hi hz0 hz1 .i64 .i64 _ _ l.length rfl rfl rfl rfl (by rw [hz2]; omega) (by unfold maxLen; omega) (Nat.le_refl _) ?_; intro w0 hown0 hgrow0)
  have hb0 : Below w.heap.size w w0 := (Below.refl _ _).grown hgrow0 (Nat.le_refl _) (fun k hk => by cases hk)
  have hblk := made_ublk hown0
  obtain ⟨g, hg⟩ : ∃ g, g = w.heap.size := ⟨_, rfl⟩
  rw [← hg] at hblk ⊢
  have hgl : w.heap.size ≤ g := by omega
  clear hg hown0 hgrow0
  go_wp2_with fail
  go_loopw [6, 7, 13] (fun _ _ i wr => ∃ k : Nat, k ≤ l.length ∧ i = .int .i64 k ∧ UBlk wr g (D.runF D.fzig 0 (l.take k) ++ List.replicate (l.length - k) 0) ∧ Below w.heap.size w wr) (fun _ _ i _ => l.length - (intOf i).toNat)
  case atStart => exact ⟨0, by omega, rfl, by simpa [D.runF] using hblk, hb0⟩
  case round =>
    obtain ⟨k, hk, rfl, hub, hbw⟩ := hrel
    by_cases hlt : k < l.length
    · obtain ⟨b, off, rfl, hb, hcc⟩ := HU.out (fun e => by rw [e] at hlt; simp at hlt)
      have ck := (hbw.cell (p := ⟨b, off + k, none⟩) hb).trans (hcc k hlt)
      have hxk := HX.out _ (getD_mem l k hlt)
      have HS := Lib.hid (show (D.runF D.fzig 0 (l.take k) ++ List.replicate (l.length - k) 0).set k (D.zig (l.getD k 0)) = _ from HST.out k hlt)
      have hln := HLN.out k hk
      have hcall := zig_any (l.getD k 0) wr hxk
      generalize l.getD k 0 = x at *
      generalize D.runF D.fzig 0 (l.take k) ++ List.replicate (l.length - k) 0 = acc at *
      generalize D.zig x = y at *
      have HC := Lib.hid hcall
      clear hcc hcall
      go_wp2_with fail
      refine (HC.out).mono ?_
      rintro e w1 ⟨rfl, rfl⟩
      have hub1 := hub
      have u1 := hub1.cell k (by omega)
      have u2 := hub1.free k
      have hub2 := hub1.put k y
      generalize acc.getD k 0 = oz at *
      clear hub1 hub
      have hkI : (k : Int) < (l.length : Int) := by omega
      go_wp2_with fail
      exact ⟨⟨k + 1, by omega, by go_num, by rw [← HS.out]; exact hub2, hbw.setCell (p := ⟨g, k, none⟩) hgl _⟩, by simp [intOf]; omega⟩
    · obtain rfl : k = l.length := by omega
      have hn := hub.nums
      rw [Nat.sub_self, List.replicate_zero, List.append_nil, List.take_length] at hn
      have HN := Lib.hid hn
      clear hn hub
      go_wp2_with fail
      go_ret
      exact ⟨some ⟨g, 0, none⟩, l.length, by rw [HRL.out]; rfl, HN.out, by rw [HRL.out]; exact Nat.le_refl _, by unfold maxLen; omega, hbw⟩

set_option maxHeartbeats 2000000 in
set_option maxRecDepth 100000 in
theorem along_zag (w : World) (a : Option Addr) (c : Nat) (l : List Nat) (hl : l.length ≤ 64) (hx : ∀ x ∈ l, x < 18446744073709551616) (hu : Nums w w.heap.size a l) :
    Calls Try.prog 37 #[.slice a l.length c, .func (.func 22) #[] #[]] w (NumsC (D.runF D.fzag 0 l) w.heap.size w) := by
  obtain ⟨i0, hi, hz0, hz1, hz2⟩ := info_parts info_u64
  have HU := Lib.hid hu
  have HX := Lib.hid hx
  have HST := Lib.hid (fun k hk => ublk_step D.fzag 0 l k hk)
  have HLN := Lib.hid (fun k hk => ublk_len D.fzag 0 l k hk)
  have HTK := Lib.hid (fun k hk => D.runF_take D.fzag 0 l k hk)
  have HRL := Lib.hid (D.runF_length D.fzag 0 l)
  clear hu hx
  go_enter Try.func37, Try.ntmps37
  go_wp2_with (at_make; refine wpList_make_full _ rfl _ _ 22 rfl w.heap.size 23 i0 (.int .u64 0) 1 Try.underlying22 hi hz0 hz1 .i64 .i64 _ _ l.length rfl rfl rfl rfl (by rw [hz2]; omega) (by unfold maxLen; omega) (Nat.le_refl _) ?_; intro w0 hown0 hgrow0)
  have hb0 : Below w.heap.size w w0 := (Below.refl _ _).grown hgrow0 (Nat.le_refl _) (fun k hk => by cases hk)
  have hblk := made_ublk hown0
  obtain ⟨g, hg⟩ : ∃ g, g = w.heap.size := ⟨_, rfl⟩
  rw [← hg] at hblk ⊢
  have hgl : w.heap.size ≤ g := by omega
  clear hg hown0 hgrow0
  go_wp2_with fail
  go_loopw [6, 7, 13] (fun _ _ i wr => ∃ k : Nat, k ≤ l.length ∧ i = .int .i64 k ∧ UBlk wr g (D.runF D.fzag 0 (l.take k) ++ List.replicate (l.length - k) 0) ∧ Below w.heap.size w wr) (fun _ _ i _ => l.length - (intOf i).toNat)
  case atStart => exact ⟨0, by omega, rfl, by simpa [D.runF] using hblk, hb0⟩
  case round =>
    obtain ⟨k, hk, rfl, hub, hbw⟩ := hrel
    by_cases hlt : k < l.length
    · obtain ⟨b, off, rfl, hb, hcc⟩ := HU.out (fun e => by rw [e] at hlt; simp at hlt)
      have ck := (hbw.cell (p := ⟨b, off + k, none⟩) hb).trans (hcc k hlt)
      have hxk := HX.out _ (getD_mem l k hlt)
      have HS := Lib.hid (show (D.runF D.fzag 0 (l.take k) ++ List.replicate (l.length - k) 0).set k (D.zag (l.getD k 0)) = _ from HST.out k hlt)
      have hln := HLN.out k hk
      have hcall := zag_any (l.getD k 0) wr hxk
      generalize l.getD k 0 = x at *
      generalize D.runF D.fzag 0 (l.take k) ++ List.replicate (l.length - k) 0 = acc at *
      generalize D.zag x = y at *
      have HC := Lib.hid hcall
      clear hcc hcall
      go_wp2_with fail
      refine (HC.out).mono ?_
      rintro e w1 ⟨rfl, rfl⟩
      have hub1 := hub
      have u1 := hub1.cell k (by omega)
      have u2 := hub1.free k
      have hub2 := hub1.put k y
      generalize acc.getD k 0 = oz at *
      clear hub1 hub
      have hkI : (k : Int) < (l.length : Int) := by omega
      go_wp2_with fail
      exact ⟨⟨k + 1, by omega, by go_num, by rw [← HS.out]; exact hub2, hbw.setCell (p := ⟨g, k, none⟩) hgl _⟩, by simp [intOf]; omega⟩
    · obtain rfl : k = l.length := by omega
      have hn := hub.nums
      rw [Nat.sub_self, List.replicate_zero, List.append_nil, List.take_length] at hn
      have HN := Lib.hid hn
      clear hn hub
      go_wp2_with fail
      go_ret
      exact ⟨some ⟨g, 0, none⟩, l.length, by rw [HRL.out]; rfl, HN.out, by rw [HRL.out]; exact Nat.le_refl _, by unfold maxLen; omega, hbw⟩

set_option maxHeartbeats 400000 in
theorem diffs_many (a : Option Addr) (c n : Nat) (w : World) (h : 64 < n) :
    Calls Try.prog 14 #[.slice a n c] w (AllPostC ([], 2) w) := by
  go_enter Try.func14, Try.ntmps14
  go_wp2_with fail
  go_ret2
  exact ⟨none, 0, rfl, Nums.nil _ _ _, Nat.le_refl _, by unfold maxLen; omega, Below.refl _ _⟩

set_option maxHeartbeats 1000000 in
theorem diffs_any (a : Option Addr) (c : Nat) (l : List Nat) (w : World) (hx : ∀ x ∈ l, x < 18446744073709551616) (hu : Nums w w.heap.size a l) :
    Calls Try.prog 14 #[.slice a l.length c] w (AllPostC (if 64 < l.length then ([], 2) else (D.diffs l, 0)) w) := by
  by_cases h : 64 < l.length
  · rw [if_pos h]; exact diffs_many a c _ w h
  · rw [if_neg h]
    have hmf : ∀ (fn : Fn) (first cap : Array Value) (w : World), (Instr.makeFunc fn first cap).run Try.prog w = .ok (.func fn first cap) w := fun _ _ _ _ => rfl
    have hb1 : Below w.heap.size w (w.alloc (.cells #[.int .u64 0] 23)) := (Below.refl _ _).alloc (Nat.le_refl _) _
    have HA := Lib.hid (along_d (w.alloc (.cells #[.int .u64 0] 23)) w.heap.size w.heap.size 0 (Nat.le_refl _) (Boxed.new w 23 (.int .u64 0)) (by decide) a c l (by omega) hx (hu.below hb1))
    have HRL := Lib.hid (show (D.diffs l).length = l.length from D.runF_length _ _ _)
    have hres : D.runF D.fd 0 l = D.diffs l := rfl
    rw [hres] at HA
    generalize D.diffs l = out at *
    go_enter Try.func14, Try.ntmps14
    go_wp2_with fail
    refine (HA.out).mono ?_
    rintro e w1 ⟨A, c', rfl, hn, hlc, hcm, hb2⟩
    go_wp2_with fail
    go_ret2
    exact ⟨A, c', rfl, hn, hlc, hcm, hb1.trans hb2⟩

set_option maxHeartbeats 400000 in
theorem sums_many (a : Option Addr) (c n : Nat) (w : World) (h : 64 < n) :
    Calls Try.prog 15 #[.slice a n c] w (AllPostC ([], 2) w) := by
  go_enter Try.func15, Try.ntmps15
  go_wp2_with fail
  go_ret2
  exact ⟨none, 0, rfl, Nums.nil _ _ _, Nat.le_refl _, by unfold maxLen; omega, Below.refl _ _⟩

set_option maxHeartbeats 1000000 in
theorem sums_any (a : Option Addr) (c : Nat) (l : List Nat) (w : World) (hx : ∀ x ∈ l, x < 18446744073709551616) (hu : Nums w w.heap.size a l) :
    Calls Try.prog 15 #[.slice a l.length c] w (AllPostC (if 64 < l.length then ([], 2) else (D.sums l, 0)) w) := by
  by_cases h : 64 < l.length
  · rw [if_pos h]; exact sums_many a c _ w h
  · rw [if_neg h]
    have hmf : ∀ (fn : Fn) (first cap : Array Value) (w : World), (Instr.makeFunc fn first cap).run Try.prog w = .ok (.func fn first cap) w := fun _ _ _ _ => rfl
    have hb1 : Below w.heap.size w (w.alloc (.cells #[.int .u64 0] 23)) := (Below.refl _ _).alloc (Nat.le_refl _) _
    have HA := Lib.hid (along_s (w.alloc (.cells #[.int .u64 0] 23)) w.heap.size w.heap.size 0 (Nat.le_refl _) (Boxed.new w 23 (.int .u64 0)) (by decide) a c l (by omega) hx (hu.below hb1))
    have HRL := Lib.hid (show (D.sums l).length = l.length from D.runF_length _ _ _)
    have hres : D.runF D.fs 0 l = D.sums l := rfl
    rw [hres] at HA
    generalize D.sums l = out at *
    go_enter Try.func15, Try.ntmps15
    go_wp2_with fail
    refine (HA.out).mono ?_
    rintro e w1 ⟨A, c', rfl, hn, hlc, hcm, hb2⟩
    go_wp2_with fail
    go_ret2
    exact ⟨A, c', rfl, hn, hlc, hcm, hb1.trans hb2⟩
end Go.Proofs.Ytpjmpbpbfjemdaa
