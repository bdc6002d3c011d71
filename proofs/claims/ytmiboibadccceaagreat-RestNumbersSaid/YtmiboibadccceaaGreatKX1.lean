/- Differences, sums, and what hybrid, delta and patch read: fresh. -/
import Derived.Test.YtmiboibadccceaaGreatKX0
namespace Go.Proofs.YtmiboibadccceaaGreat
open Go.RowKit
set_option linter.unusedVariables false

set_option maxHeartbeats 2000000 in
set_option maxRecDepth 100000 in
theorem along_df (w : World) (base B b0 : Nat) (hbB : base ≤ B) (hB : Boxed w B 46 (.int .u64 b0)) (hb0 : b0 < 18446744073709551616) (a : Option Addr) (c : Nat) (l : List Nat) (hl : l.length ≤ 64) (hx : ∀ x ∈ l, x < 18446744073709551616) (hu : Nums w base a l) :
    Calls Tryz.prog 65 #[.slice a l.length c, .func (.func 66) #[] #[.pointer (some ⟨B, 0, none⟩)]] w (NumsF (D.runF D.fd b0 l) base w) := by
  obtain ⟨i0, hi, hz0, hz1, hz2⟩ := info_parts info_u64
  have HU := Lib.hid hu
  have HX := Lib.hid hx
  have HST := Lib.hid (fun k hk => ublk_step D.fd b0 l k hk)
  have HLN := Lib.hid (fun k hk => ublk_len D.fd b0 l k hk)
  have HTK := Lib.hid (fun k hk => D.runF_take D.fd b0 l k hk)
  have HRL := Lib.hid (D.runF_length D.fd b0 l)
  have HEL := Lib.hid (fun k => D.endF_lt D.fd (fun b x hb hx => (D.fd_lt b x hb hx).1) b0 hb0 (l.take k) (fun x h => hx x (List.mem_of_mem_take h)))
  have hBlt := hB.lt
  have hbs : base ≤ w.heap.size := by omega
  clear hu hx
  go_enter Tryz.func65, Tryz.ntmps65
  go_wp2_with (at_make; refine wpList_make_full _ rfl _ _ 22 rfl w.heap.size 46 i0 (.int .u64 0) 1 Tryz.underlying22 hi hz0 hz1 .i64 .i64 _ _ l.length rfl rfl rfl rfl (by rw [hz2]; omega) (by unfold maxLen; omega) (Nat.le_refl _) ?_; intro w0 hown0 hgrow0)
  have hb0w : Below w.heap.size w w0 := (Below.refl _ _).grown hgrow0 (Nat.le_refl _) (fun k hk => by cases hk)
  have hblk := made_ublk hown0
  obtain ⟨g, hg⟩ : ∃ g, g = w.heap.size := ⟨_, rfl⟩
  rw [← hg] at hblk ⊢
  have hgl : w.heap.size ≤ g := by omega
  clear hg hown0 hgrow0
  have hB0 : Boxed w0 B 46 (.int .u64 b0) := (hb0w.block B hB.lt).trans hB
  go_wp2_with fail
  go_loopw [6, 7, 13] (fun _ _ i wr => ∃ k : Nat, k ≤ l.length ∧ i = .int .i64 k ∧ UBlk wr g (D.runF D.fd b0 (l.take k) ++ List.replicate (l.length - k) 0) ∧ Boxed wr B 46 (.int .u64 (D.endF D.fd b0 (l.take k))) ∧ Below base w wr) (fun _ _ i _ => l.length - (intOf i).toNat)
  case atStart => exact ⟨0, by omega, rfl, by simpa [D.runF] using hblk, hB0, hb0w.mono hbs⟩
  case round =>
    obtain ⟨k, hk, rfl, hub, hBx, hbw⟩ := hrel
    by_cases hlt : k < l.length
    · obtain ⟨b, off, rfl, hb, hcc⟩ := HU.out (fun e => by rw [e] at hlt; simp at hlt)
      have ck := (hbw.cell (p := ⟨b, off + k, none⟩) hb).trans (hcc k hlt)
      have hxk := HX.out _ (getD_mem l k hlt)
      have HS := Lib.hid (HST.out k hlt)
      have hln := HLN.out k hk
      have hel := HEL.out k
      have HTE := Lib.hid ((HTK.out k hlt).2)
      have hcall := dclos_any B (D.endF D.fd b0 (l.take k)) (l.getD k 0) wr hBx hel hxk
      generalize l.getD k 0 = x at *
      generalize D.runF D.fd b0 (l.take k) ++ List.replicate (l.length - k) 0 = acc at *
      generalize D.endF D.fd b0 (l.take k) = st at *
      have HC := Lib.hid hcall
      clear hcc hcall
      go_wp2_with fail
      refine (HC.out).mono ?_
      rintro e w1 ⟨rfl, rfl⟩
      have hneg : g ≠ B := by omega
      generalize (D.fd st x).2 = y at *
      obtain ⟨st2, hst2⟩ : ∃ st2, st2 = (D.fd st x).1 := ⟨_, rfl⟩
      rw [← hst2] at HTE ⊢
      have hB1 := hBx.set (.int .u64 st2)
      have hgs := grownBy_setCell' wr B (.int .u64 (st2 : Int))
      have hub1 : UBlk (wr.setCell ⟨B, 0, none⟩ (.int .u64 (st2 : Int))) g acc := (hgs.block g hub.lt (fun e => hneg (by injection e))).trans hub
      have hbw1 : Below base w (wr.setCell ⟨B, 0, none⟩ (.int .u64 (st2 : Int))) := hbw.setCell (p := ⟨B, 0, none⟩) hbB _
      have u1 := hub1.cell k (by omega)
      have u2 := hub1.free k
      have hub2 := hub1.put k y
      generalize acc.getD k 0 = oz at *
      obtain ⟨W1, hW1⟩ : ∃ W1, W1 = wr.setCell ⟨B, 0, none⟩ (.int .u64 (st2 : Int)) := ⟨_, rfl⟩
      rw [← hW1] at hub2 hB1 hbw1 u1 u2 ⊢
      have hgs2 := grown_set W1 g k (.int .u64 (y : Int))
      have hB2 : Boxed (W1.setCell ⟨g, k, none⟩ (.int .u64 (y : Int))) B 46 (.int .u64 st2) := (hgs2.block B hB1.lt (fun e => hneg (by injection e with e; exact e.symm))).trans hB1
      clear hW1 hst2 hgs hgs2 hub1 hub hneg
      have hkI : (k : Int) < (l.length : Int) := by omega
      go_wp2_with fail
      exact ⟨⟨k + 1, by omega, by go_num, by rw [← HS.out]; exact hub2, by rw [HTE.out]; exact hB2, hbw1.setCell (p := ⟨g, k, none⟩) (show base ≤ g by omega) _⟩, by simp [intOf]; omega⟩
    · obtain rfl : k = l.length := by omega
      have hn := hub.nf (show base ≤ g by omega) (D.runF D.fd b0 l).length
      rw [Nat.sub_self, List.replicate_zero, List.append_nil, List.take_length] at hn
      have HN := Lib.hid hn
      clear hn hub
      go_wp2_with fail
      go_ret
      exact ⟨some ⟨g, 0, none⟩, l.length, by rw [HRL.out]; rfl, HN.out, hbw⟩

set_option maxHeartbeats 2000000 in
set_option maxRecDepth 100000 in
theorem along_sf (w : World) (base B b0 : Nat) (hbB : base ≤ B) (hB : Boxed w B 46 (.int .u64 b0)) (hb0 : b0 < 18446744073709551616) (a : Option Addr) (c : Nat) (l : List Nat) (hl : l.length ≤ 64) (hx : ∀ x ∈ l, x < 18446744073709551616) (hu : Nums w base a l) :
    Calls Tryz.prog 65 #[.slice a l.length c, .func (.func 67) #[] #[.pointer (some ⟨B, 0, none⟩)]] w (NumsF (D.runF D.fs b0 l) base w) := by
  obtain ⟨i0, hi, hz0, hz1, hz2⟩ := info_parts info_u64
  have HU := Lib.hid hu
  have HX := Lib.hid hx
  have HST := Lib.hid (fun k hk => ublk_step D.fs b0 l k hk)
  have HLN := Lib.hid (fun k hk => ublk_len D.fs b0 l k hk)
  have HTK := Lib.hid (fun k hk => D.runF_take D.fs b0 l k hk)
  have HRL := Lib.hid (D.runF_length D.fs b0 l)
  have HEL := Lib.hid (fun k => D.endF_lt D.fs (fun b x hb hx => (D.fs_lt b x hb hx).1) b0 hb0 (l.take k) (fun x h => hx x (List.mem_of_mem_take h)))
  have hBlt := hB.lt
  have hbs : base ≤ w.heap.size := by omega
  clear hu hx
  go_enter Tryz.func65, Tryz.ntmps65
  go_wp2_with (at_make; refine wpList_make_full _ rfl _ _ 22 rfl w.heap.size 46 i0 (.int .u64 0) 1 Tryz.underlying22 hi hz0 hz1 .i64 .i64 _ _ l.length rfl rfl rfl rfl (by rw [hz2]; omega) (by unfold maxLen; omega) (Nat.le_refl _) ?_; intro w0 hown0 hgrow0)
  have hb0w : Below w.heap.size w w0 := (Below.refl _ _).grown hgrow0 (Nat.le_refl _) (fun k hk => by cases hk)
  have hblk := made_ublk hown0
  obtain ⟨g, hg⟩ : ∃ g, g = w.heap.size := ⟨_, rfl⟩
  rw [← hg] at hblk ⊢
  have hgl : w.heap.size ≤ g := by omega
  clear hg hown0 hgrow0
  have hB0 : Boxed w0 B 46 (.int .u64 b0) := (hb0w.block B hB.lt).trans hB
  go_wp2_with fail
  go_loopw [6, 7, 13] (fun _ _ i wr => ∃ k : Nat, k ≤ l.length ∧ i = .int .i64 k ∧ UBlk wr g (D.runF D.fs b0 (l.take k) ++ List.replicate (l.length - k) 0) ∧ Boxed wr B 46 (.int .u64 (D.endF D.fs b0 (l.take k))) ∧ Below base w wr) (fun _ _ i _ => l.length - (intOf i).toNat)
  case atStart => exact ⟨0, by omega, rfl, by simpa [D.runF] using hblk, hB0, hb0w.mono hbs⟩
  case round =>
    obtain ⟨k, hk, rfl, hub, hBx, hbw⟩ := hrel
    by_cases hlt : k < l.length
    · obtain ⟨b, off, rfl, hb, hcc⟩ := HU.out (fun e => by rw [e] at hlt; simp at hlt)
      have ck := (hbw.cell (p := ⟨b, off + k, none⟩) hb).trans (hcc k hlt)
      have hxk := HX.out _ (getD_mem l k hlt)
      have HS := Lib.hid (HST.out k hlt)
      have hln := HLN.out k hk
      have hel := HEL.out k
      have HTE := Lib.hid ((HTK.out k hlt).2)
      have hcall := sclos_any B (D.endF D.fs b0 (l.take k)) (l.getD k 0) wr hBx hel hxk
      generalize l.getD k 0 = x at *
      generalize D.runF D.fs b0 (l.take k) ++ List.replicate (l.length - k) 0 = acc at *
      generalize D.endF D.fs b0 (l.take k) = st at *
      have HC := Lib.hid hcall
      clear hcc hcall
      go_wp2_with fail
      refine (HC.out).mono ?_
      rintro e w1 ⟨rfl, rfl⟩
      have hneg : g ≠ B := by omega
      generalize (D.fs st x).2 = y at *
      obtain ⟨st2, hst2⟩ : ∃ st2, st2 = (D.fs st x).1 := ⟨_, rfl⟩
      rw [← hst2] at HTE ⊢
      have hB1 := hBx.set (.int .u64 st2)
      have hgs := grownBy_setCell' wr B (.int .u64 (st2 : Int))
      have hub1 : UBlk (wr.setCell ⟨B, 0, none⟩ (.int .u64 (st2 : Int))) g acc := (hgs.block g hub.lt (fun e => hneg (by injection e))).trans hub
      have hbw1 : Below base w (wr.setCell ⟨B, 0, none⟩ (.int .u64 (st2 : Int))) := hbw.setCell (p := ⟨B, 0, none⟩) hbB _
      have u1 := hub1.cell k (by omega)
      have u2 := hub1.free k
      have hub2 := hub1.put k y
      generalize acc.getD k 0 = oz at *
      obtain ⟨W1, hW1⟩ : ∃ W1, W1 = wr.setCell ⟨B, 0, none⟩ (.int .u64 (st2 : Int)) := ⟨_, rfl⟩
      rw [← hW1] at hub2 hB1 hbw1 u1 u2 ⊢
      have hgs2 := grown_set W1 g k (.int .u64 (y : Int))
      have hB2 : Boxed (W1.setCell ⟨g, k, none⟩ (.int .u64 (y : Int))) B 46 (.int .u64 st2) := (hgs2.block B hB1.lt (fun e => hneg (by injection e with e; exact e.symm))).trans hB1
      clear hW1 hst2 hgs hgs2 hub1 hub hneg
      have hkI : (k : Int) < (l.length : Int) := by omega
      go_wp2_with fail
      exact ⟨⟨k + 1, by omega, by go_num, by rw [← HS.out]; exact hub2, by rw [HTE.out]; exact hB2, hbw1.setCell (p := ⟨g, k, none⟩) (show base ≤ g by omega) _⟩, by simp [intOf]; omega⟩
    · obtain rfl : k = l.length := by omega
      have hn := hub.nf (show base ≤ g by omega) (D.runF D.fs b0 l).length
      rw [Nat.sub_self, List.replicate_zero, List.append_nil, List.take_length] at hn
      have HN := Lib.hid hn
      clear hn hub
      go_wp2_with fail
      go_ret
      exact ⟨some ⟨g, 0, none⟩, l.length, by rw [HRL.out]; rfl, HN.out, hbw⟩

set_option maxHeartbeats 1000000 in
theorem diffsf_any (a : Option Addr) (c : Nat) (l : List Nat) (w : World) (hx : ∀ x ∈ l, x < 18446744073709551616) (hu : Nums w w.heap.size a l) :
    Calls Tryz.prog 28 #[.slice a l.length c] w (AllPostF (if 64 < l.length then ([], 2) else (D.diffs l, 0)) w) := by
  by_cases h : 64 < l.length
  · rw [if_pos h]; exact (diffs_many a c _ w h).mono fun _ _ h => h.toF
  · rw [if_neg h]
    have hmf : ∀ (fn : Fn) (first cap : Array Value) (w : World), (Instr.makeFunc fn first cap).run Tryz.prog w = .ok (.func fn first cap) w := fun _ _ _ _ => rfl
    have hb1 : Below w.heap.size w (w.alloc (.cells #[.int .u64 0] 46)) := (Below.refl _ _).alloc (Nat.le_refl _) _
    have HA := Lib.hid (along_df (w.alloc (.cells #[.int .u64 0] 46)) w.heap.size w.heap.size 0 (Nat.le_refl _) (Boxed.new w 46 (.int .u64 0)) (by decide) a c l (by omega) hx (hu.below hb1))
    have HRL := Lib.hid (show (D.diffs l).length = l.length from D.runF_length _ _ _)
    have hres : D.runF D.fd 0 l = D.diffs l := rfl
    rw [hres] at HA
    generalize D.diffs l = out at *
    go_enter Tryz.func28, Tryz.ntmps28
    go_wp2_with fail
    refine (HA.out).mono ?_
    rintro e w1 ⟨A, c', rfl, hn, hb2⟩
    go_wp2_with fail
    go_ret2
    exact ⟨A, c', rfl, hn, hb1.trans hb2⟩

set_option maxHeartbeats 1000000 in
theorem sumsf_any (a : Option Addr) (c : Nat) (l : List Nat) (w : World) (hx : ∀ x ∈ l, x < 18446744073709551616) (hu : Nums w w.heap.size a l) :
    Calls Tryz.prog 29 #[.slice a l.length c] w (AllPostF (if 64 < l.length then ([], 2) else (D.sums l, 0)) w) := by
  by_cases h : 64 < l.length
  · rw [if_pos h]; exact (sums_many a c _ w h).mono fun _ _ h => h.toF
  · rw [if_neg h]
    have hmf : ∀ (fn : Fn) (first cap : Array Value) (w : World), (Instr.makeFunc fn first cap).run Tryz.prog w = .ok (.func fn first cap) w := fun _ _ _ _ => rfl
    have hb1 : Below w.heap.size w (w.alloc (.cells #[.int .u64 0] 46)) := (Below.refl _ _).alloc (Nat.le_refl _) _
    have HA := Lib.hid (along_sf (w.alloc (.cells #[.int .u64 0] 46)) w.heap.size w.heap.size 0 (Nat.le_refl _) (Boxed.new w 46 (.int .u64 0)) (by decide) a c l (by omega) hx (hu.below hb1))
    have HRL := Lib.hid (show (D.sums l).length = l.length from D.runF_length _ _ _)
    have hres : D.runF D.fs 0 l = D.sums l := rfl
    rw [hres] at HA
    generalize D.sums l = out at *
    go_enter Tryz.func29, Tryz.ntmps29
    go_wp2_with fail
    refine (HA.out).mono ?_
    rintro e w1 ⟨A, c', rfl, hn, hb2⟩
    go_wp2_with fail
    go_ret2
    exact ⟨A, c', rfl, hn, hb1.trans hb2⟩

set_option maxHeartbeats 4000000 in
set_option maxRecDepth 100000 in
theorem hreadf_in (s : ByteArray) (many wide : Nat) (w : World) (hs : s.size ≤ maxLen) (hw : wide ≤ 64) (hm : many ≤ 64) :
    Calls Tryz.prog 101 #[.string s, .int .i64 many, .int .i64 wide] w (AllPostF (H.read s.data.toList many wide) w) := by
  obtain ⟨i0, hi, hz0, hz1, hz2⟩ := info_parts info_u64
  have hmt1 : ∀ (k : Nat) (n m : Int) (w : World), (method (k + 1) 137 (.agg #[.int .u64 n, .int .i64 m]) "hypostyle/hybrid.numbers").run Tryz.prog w = .ok (202, .agg #[.int .u64 n, .int .i64 m]) w := fun _ _ _ _ => by kernel_rfl
  have hmt2 : ∀ (k : Nat) (a : Option Addr) (n c : Nat) (w : World), (method (k + 1) 138 (.slice a n c) "hypostyle/hybrid.numbers").run Tryz.prog w = .ok (209, .slice a n c) w := fun _ _ _ _ _ => by kernel_rfl
  have g1 : decide ((wide : Int) < 0) = false := by simp
  have g2 : decide ((64 : Int) < (wide : Int)) = false := by simp; omega
  have g3 : decide ((many : Int) < 0) = false := by simp
  obtain ⟨R, hR⟩ : ∃ R, R = H.read s.data.toList many wide := ⟨_, rfl⟩
  have HR := Lib.hid hR
  rw [← hR]
  have hmax := hs
  unfold maxLen at hmax
  clear hR
  go_enter Tryz.func101, Tryz.ntmps101
  go_wp2_with (at_make; refine wpList_make_own _ rfl _ _ 22 rfl w.heap.size 46 i0 (.int .u64 0) 1 Tryz.underlying22 hi hz0 hz1 .i64 .i64 _ many rfl rfl rfl (by rw [hz2]; omega) (by unfold maxLen; omega) (Nat.le_refl _) ?_; intro w0 hown0 hgrow0)
  have hb0 : Below w.heap.size w w0 := (Below.refl _ _).grown hgrow0 (Nat.le_refl _) (fun k hk => by cases hk)
  have hrow0 : NumRow w.heap.size [] (.slice (some ⟨w.heap.size, 0, none⟩) 0 many) w0 := hown0
  clear hown0 hgrow0
  go_loopw [0, 8, 9, 10, 11, 30] (fun s' v _ _ _ _ wr => ∃ (t : ByteArray) (xs : List Nat), s' = .string t ∧ t.size ≤ s.size ∧ xs.length ≤ many ∧ NumRow w.heap.size xs v wr ∧ Hid (R = H.pre xs (H.read t.data.toList (many - xs.length) wide)) ∧ Below w.heap.size w wr) (fun _ v _ _ _ _ _ => many - lenS v)
  case atStart => exact ⟨s, [], rfl, Nat.le_refl _, by simp, hrow0, Lib.hid (by rw [H.pre_nil _ (H.read_err _ _ _)]; exact HR.out), hb0⟩
  case round =>
    obtain ⟨t, xs, rfl, hts, hxm, hrow, HK, hbw⟩ := hrel
    obtain ⟨a, c, rfl, hnum, hlc, hcm⟩ := numRow_numsc hrow
    by_cases hlt : xs.length < many
    · have hsub : ((many : Int) - (xs.length : Int)) = ((many - xs.length : Nat) : Int) := by omega
      have hfst := fun w => hfirst_any t (many - xs.length) wide w (by omega) (by omega) (by omega) hw
      have hgr := H.first_grows t.data.toList (many - xs.length) wide (by omega)
      have hen := first_end t.data.toList (many - xs.length) wide
      have hst := H.read_step t.data.toList (many - xs.length) wide (by omega)
      have hbd := H.read_bad t.data.toList (many - xs.length) wide (by omega)
      rw [len_data] at hen
      generalize H.first t.data.toList (many - xs.length) wide = r at *
      obtain ⟨er, p, en⟩ := r
      simp only at hgr hen hst hbd
      have HFST := Lib.hid hfst
      have HST := Lib.hid hst
      have HBD := Lib.hid hbd
      clear hfst hst hbd
      go_wp2_with fail
      refine (HFST.out _).mono ?_
      rintro e1 w1 ⟨hb1, hpost⟩
      simp only at hpost
      by_cases he : er = 0
      · rw [if_pos he] at hpost
        obtain ⟨v, rfl, hpv⟩ := hpost
        subst he
        obtain ⟨hy1, hy2⟩ := hgr rfl
        have hen' := hen rfl
        have HN := Lib.hid (show R = H.pre (xs ++ p.nums) (H.read (t.data.toList.drop en) (many - (xs ++ p.nums).length) wide) by
          rw [HK.out, HST.out rfl, H.pre_pre, List.length_append, Nat.sub_sub])
        have hrow1 : NumRow w.heap.size xs (.slice a xs.length c) w1 := row_below hrow hb1
        have henI : (en : Int) ≤ (t.size : Int) := by omega
        have hbw1 := below_then hbw hb1
        have hsz1 := hbw1.size
        clear hgr hen hrow hnum
        cases p with
        | run n m =>
          obtain rfl : v = _ := hpv
          simp only [H.Part.nums, List.length_replicate] at hy1 hy2 HN
          have HNM := Lib.hid (fun W => rnums_any n m W hy1 (by omega))
          have HX3 := Lib.hid (fun (v' : Value) (w3 : World) (h : w3.ownsRow w.heap.size 46 1 v' (xs.length + m) (nv xs ++ nv (List.replicate m n))) => show NumRow w.heap.size (xs ++ List.replicate m n) v' w3 by
            unfold NumRow; rw [List.length_append, List.length_replicate]; simpa [nv] using h)
          generalize hys : List.replicate m n = ys at *
          have hyl : ys.length = m := by rw [← hys, List.length_replicate]
          clear hys
          go_wp2_with fail
          refine (HNM.out _).mono ?_
          rintro e2 w2 ⟨A, c2, rfl, hn2, hb2⟩
          rw [hyl]
          have hA : A ≠ none := fun e => by
            obtain ⟨b, off, e', _⟩ := hn2 (fun e => by rw [e] at hyl; simp at hyl; omega)
            rw [e] at e'; cases e'
          have hrow2 := row_below hrow1 hb2
          have hbw2 := below_then hbw1 hb2
          have hsz2 := hbw2.size
          have hrow2' : w2.ownsRow w.heap.size 46 1 (.slice a xs.length c) xs.length (nv xs) := hrow2
          go_wp2_with (at_builtin; refine wpList_append_nums rfl (.tmp 44) (.tmp 46) rfl w.heap.size _ xs.length (nv xs) rfl hrow2' A m c2 ys hyl rfl (fun h => absurd h hA) hn2 (by omega) hsz2 ?_; intro v' w3 hown3 hgrow3)
          have hb3 : Below w.heap.size w w3 := hbw2.grown hgrow3 hsz2 (fun k hk => (hrow2'.lt k hk).1)
          have hrow3 := HX3.out v' w3 hown3
          go_wp2_with fail
          refine ⟨⟨t.extract en t.size, xs ++ ys, rfl, by simp; omega, by rw [List.length_append]; omega, hrow3, Lib.hid ?_, hb3⟩, ?_⟩
          · rw [HN.out, cut_data]
          · obtain ⟨a3, c3, e3, _⟩ := numRow_nums hrow3
            rw [e3]; simp [lenS]; omega
        | blk ys =>
          obtain ⟨A, c2, rfl, hn1⟩ := hpv
          simp only [H.Part.nums] at hy1 hy2 HN
          have hA : A ≠ none := fun e => by
            obtain ⟨b, off, e', _⟩ := hn1 (fun e => by rw [e] at hy1; simp at hy1)
            rw [e] at e'; cases e'
          have HX3 := Lib.hid (fun (v' : Value) (w3 : World) (h : w3.ownsRow w.heap.size 46 1 v' (xs.length + ys.length) (nv xs ++ nv ys)) => show NumRow w.heap.size (xs ++ ys) v' w3 by
            unfold NumRow; rw [List.length_append]; simpa [nv] using h)
          have hrow2' : w1.ownsRow w.heap.size 46 1 (.slice a xs.length c) xs.length (nv xs) := hrow1
          go_wp2_with fail
          refine (bnums_any _ _).mono ?_
          rintro e2 w2 ⟨rfl, rfl⟩
          go_wp2_with (at_builtin; refine wpList_append_nums rfl (.tmp 44) (.tmp 46) rfl w.heap.size _ xs.length (nv xs) rfl hrow2' A ys.length c2 ys rfl rfl (fun h => absurd h hA) hn1 (by omega) hsz1 ?_; intro v' w3 hown3 hgrow3)
          have hb3 : Below w.heap.size w w3 := hbw1.grown hgrow3 hsz1 (fun k hk => (hrow2'.lt k hk).1)
          have hrow3 := HX3.out v' w3 hown3
          go_wp2_with fail
          refine ⟨⟨t.extract en t.size, xs ++ ys, rfl, by simp; omega, by rw [List.length_append]; omega, hrow3, Lib.hid ?_, hb3⟩, ?_⟩
          · rw [HN.out, cut_data]
          · obtain ⟨a3, c3, e3, _⟩ := numRow_nums hrow3
            rw [e3]; simp [lenS]; omega
      · rw [if_neg he] at hpost
        subst hpost
        have g5 : ((er : Int) != 0) = true := by rw [bne_iff_ne]; omega
        have HE := Lib.hid (show R = ([], er) by rw [HK.out, HBD.out he]; unfold H.pre; simp [he])
        go_wp2_with fail
        go_ret2
        rw [HE.out]
        exact ⟨none, 0, rfl, nf_none _ _, below_then hbw hb1⟩
    · obtain rfl : many = xs.length := by omega
      have hz : xs.length - xs.length = 0 := Nat.sub_self _
      have HK2 := Lib.hid (show R = H.pre xs ([], if t.data.toList = [] then 0 else 1) by rw [HK.out, hz, H.read_zero])
      by_cases ht : t.size = 0
      · have HE := Lib.hid (show R = (xs, 0) by rw [HK2.out, if_pos (data_empty t ht)]; simp [H.pre])
        have g5 := empty_true t ht
        go_wp2_with fail
        go_ret2
        rw [HE.out]
        exact ⟨_, _, rfl, hrow.nf, hbw⟩
      · have HE := Lib.hid (show R = ([], 1) by rw [HK2.out, if_neg (data_ne t ht)]; simp [H.pre])
        have g5 := empty_false t ht
        go_wp2_with fail
        go_ret2
        rw [HE.out]
        exact ⟨none, 0, rfl, nf_none _ _, hbw⟩
theorem hreadf_any (s : ByteArray) (many wide : Int) (w : World) (hs : s.size ≤ maxLen) :
    Calls Tryz.prog 101 #[.string s, .int .i64 many, .int .i64 wide] w (AllPostF (hreadR s.data.toList many wide) w) := by
  unfold hreadR
  by_cases h0 : wide < 0 ∨ 64 < wide ∨ many < 0
  · rw [if_pos h0]; exact (hread_range s many wide w h0).mono fun _ _ h => h.toF
  rw [if_neg h0]
  obtain ⟨n, rfl⟩ : ∃ n : Nat, wide = n := ⟨wide.toNat, by omega⟩
  by_cases h1 : 64 < many
  · rw [if_pos h1]; exact (hread_many s many n w (by omega) h1).mono fun _ _ h => h.toF
  obtain ⟨m, rfl⟩ : ∃ m : Nat, many = m := ⟨many.toNat, by omega⟩
  rw [if_neg h1, Int.toNat_natCast, Int.toNat_natCast]
  exact hreadf_in s m n w hs (by omega) (by omega)

set_option maxHeartbeats 1000000 in
set_option maxRecDepth 100000 in
theorem dreadf_in (s : ByteArray) (many : Nat) (w : World) (hs : s.size ≤ maxLen) (h1 : 1 ≤ many) (hm : many ≤ 64) :
    Calls Tryz.prog 74 #[.string s, .int .i64 many] w (AllPostF (dread2 (parseR s.data.toList many)) w) := by
  have hp := fun w => parse_any s many w hs h1 hm
  obtain ⟨f1, f2, f3, _⟩ := parseR_facts s.data.toList many
  generalize parseR s.data.toList many = p at *
  obtain ⟨n, zs, er⟩ := p
  simp only at f1 f2 f3
  have HP := Lib.hid hp
  clear hp
  have g1 : decide ((many : Int) < 0) = false := by simp
  have g2 : decide ((64 : Int) < (many : Int)) = false := by simp; omega
  have g3 : ((many : Int) == 0) = false := by rw [beq_eq_false_iff_ne]; omega
  unfold dread2
  simp only
  by_cases he : er = 0
  · subst he
    rw [if_neg (by simp)]
    have hzl : (D.runF D.fzag 0 zs).length = zs.length := D.runF_length _ _ _
    have hzz : D.runF D.fzag 0 zs = D.zags zs := D.run_zag 0 zs
    have HX3 := Lib.hid (fun (v' : Value) (w3 : World) (h : w3.ownsRow w.heap.size 46 1 v' (1 + zs.length) ((#[Value.int .u64 (n : Int)] : Array Value).toList ++ nv (D.runF D.fzag 0 zs))) => show NumRow w.heap.size (n :: D.zags zs) v' w3 by
      unfold NumRow; rw [hzz] at h; rw [List.length_cons, ← hzz, hzl, Nat.add_comm, hzz]; simpa [nv] using h)
    have HXX := Lib.hid (show ∀ x ∈ n :: D.zags zs, x < 18446744073709551616 by
      intro x hx
      rcases List.mem_cons.1 hx with h | h
      · omega
      · exact D.zags_lt zs f3 x h)
    have hsn : ¬ 64 < (n :: D.zags zs).length := by rw [List.length_cons, ← hzz, hzl]; omega
    have hsums := fun a c W h => sumsf_any a c (n :: D.zags zs) W HXX.out h
    rw [if_neg hsn] at hsums
    have HSUMS := Lib.hid hsums
    clear hsums
    go_enter Tryz.func74, Tryz.ntmps74
    go_wp2_with fail
    refine (HP.out _).mono ?_
    rintro e1 w1 ⟨A, c1, rfl, hn1, hlc1, hcm1, hb1⟩
    have hlit := World.ownsRow_lit (base := w.heap.size) (e := 46) (size := 1) w1 #[.int .u64 (n : Int)] 1 hb1.size (by decide) rfl
    have hb2 : Below w.heap.size w (w1.alloc (.cells #[.int .u64 (n : Int)] 46)) := hb1.alloc hb1.size _
    have hn2 := hn1.below ((Below.refl w1.heap.size w1).alloc (Nat.le_refl _) (.cells #[.int .u64 (n : Int)] 46))
    have HZ := Lib.hid (along_zag2 (w1.alloc (.cells #[.int .u64 (n : Int)] 46)) A c1 zs (by omega) f3 (hn2.mono (by simp)))
    go_wp2_with fail
    refine (HZ.out).mono ?_
    rintro e2 w2 ⟨Z, c2, rfl, hnz, hb3⟩
    have hrow2 := row_below hlit hb3
    have hb4 := below_then hb2 hb3
    have hsz4 := hb4.size
    rw [hzl]
    go_wp2_with (at_builtin; refine wpList_append_nums rfl (.tmp 36) (.tmp 38) rfl w.heap.size _ 1 _ rfl hrow2 (some Z) zs.length c2 (D.runF D.fzag 0 zs) hzl rfl (fun h => absurd h (by simp)) hnz (by omega) hsz4 ?_; intro v' w3 hown3 hgrow3)
    have hb5 : Below w.heap.size w w3 := hb4.grown hgrow3 hsz4 (fun k hk => (hrow2.lt k hk).1)
    have hrow3 : NumRow w.heap.size (n :: D.zags zs) v' w3 := HX3.out v' w3 hown3
    obtain ⟨a3, c3, rfl, hn3⟩ := numRow_nums hrow3
    go_wp2_with fail
    refine (HSUMS.out _ _ _ hn3).mono ?_
    rintro e4 w4 ⟨a4, c4, rfl, hn4, hb6⟩
    go_wp2_with fail
    go_ret2
    exact ⟨_, _, rfl, ⟨hn4.1, hn4.2.low hb5.size⟩, below_then hb5 hb6⟩
  · rw [if_pos he]
    have g4 : ((er : Int) != 0) = true := by rw [bne_iff_ne]; omega
    go_enter Tryz.func74, Tryz.ntmps74
    go_wp2_with fail
    refine (HP.out _).mono ?_
    rintro e1 w1 ⟨A, c1, rfl, hn1, hlc1, hcm1, hb1⟩
    go_wp2_with fail
    go_ret2
    exact ⟨none, 0, rfl, nf_none _ _, hb1⟩
theorem dreadf_any (s : ByteArray) (many : Int) (w : World) (hs : s.size ≤ maxLen) :
    Calls Tryz.prog 74 #[.string s, .int .i64 many] w (AllPostF (dreadR s.data.toList many) w) := by
  unfold dreadR
  by_cases h0 : many < 0
  · rw [if_pos h0]
    have g1 : decide (many < 0) = true := by simp; omega
    go_enter Tryz.func74, Tryz.ntmps74
    go_wp2_with fail
    go_ret2
    exact ⟨none, 0, rfl, nf_none _ _, Below.refl _ _⟩
  rw [if_neg h0]
  obtain ⟨m, rfl⟩ : ∃ m : Nat, many = m := ⟨many.toNat, by omega⟩
  have g1 : decide ((m : Int) < 0) = false := by simp
  by_cases h1 : 64 < (m : Int)
  · rw [if_pos h1]
    have g2 : decide ((64 : Int) < (m : Int)) = true := by simp; omega
    go_enter Tryz.func74, Tryz.ntmps74
    go_wp2_with fail
    go_ret2
    exact ⟨none, 0, rfl, nf_none _ _, Below.refl _ _⟩
  rw [if_neg h1]
  by_cases h2 : (m : Int) = 0
  · rw [if_pos h2]
    obtain rfl : m = 0 := by omega
    by_cases ht : s.size = 0
    · rw [if_pos (data_empty s ht)]
      have g5 := empty_true s ht
      go_enter Tryz.func74, Tryz.ntmps74
      go_wp2_with fail
      go_ret2
      exact ⟨none, 0, rfl, nf_none _ _, Below.refl _ _⟩
    · rw [if_neg (data_ne s ht)]
      have g5 := empty_false s ht
      go_enter Tryz.func74, Tryz.ntmps74
      go_wp2_with fail
      go_ret2
      exact ⟨none, 0, rfl, nf_none _ _, Below.refl _ _⟩
  rw [if_neg h2, Int.toNat_natCast]
  exact dreadf_in s m w hs (by omega) (by omega)

set_option maxHeartbeats 2000000 in
set_option maxRecDepth 100000 in
theorem preadf_in (s : ByteArray) (many : Nat) (w : World) (hs : s.size ≤ maxLen) (hm : many ≤ 64) :
    Calls Tryz.prog 102 #[.string s, .int .i64 many] w (AllPostF (P.readN s.data.toList many) w) := by
  have hmf : ∀ (fn : Fn) (first cap : Array Value) (w : World), (Instr.makeFunc fn first cap).run Tryz.prog w = .ok (.func fn first cap) w := fun _ _ _ _ => rfl
  have HP := Lib.hid (fun W => pparse_any s many W hs hm)
  obtain ⟨f1, f2⟩ := pparse_facts s.data.toList many
  rw [pread_eq]
  generalize pparseR s.data.toList many = p at *
  obtain ⟨b, xs, er⟩ := p
  simp only at f1 f2 ⊢
  have g1 : decide ((many : Int) < 0) = false := decide_eq_false (by omega)
  have g2 : decide ((64 : Int) < (many : Int)) = false := decide_eq_false (by omega)
  by_cases he : er ≠ 0
  · rw [if_pos he]
    have g3 : ((er : Int) != 0) = true := by rw [bne_iff_ne]; omega
    go_enter Tryz.func102, Tryz.ntmps102
    go_wp2_with fail
    refine (HP.out _).mono ?_
    rintro e1 w1 ⟨A, N, c, rfl, hN, hr, hb⟩
    go_wp2_with fail
    go_ret2
    exact ⟨none, 0, rfl, nf_none _ _, hb.alloc hb.size _⟩
  obtain rfl : er = 0 := by omega
  rw [if_neg he]
  have hpl := plc_any (over b) xs 0
  have HPR := Lib.hid (fun C W hB A c' h => places_r C b W hB f1 A c' xs (by omega) h)
  have HST := Lib.hid (fun j h => add_step xs b j h)
  have HAT := Lib.hid (fun j h => add_at xs b j h)
  have HLN := Lib.hid (fun j h => add_len xs b j h)
  have HOV := Lib.hid (fun j (hj : j < xs.length) (ha : xs.any (over b) = false) => show xs.getD j 0 + b < 18446744073709551616 by
    have := List.any_eq_false.1 ha _ (getD_mem xs j hj)
    unfold over at this
    rw [decide_eq_true_iff] at this
    omega)
  have hfin : P.fin b (xs, 0) = if xs.any (over b) = true then ([], 8) else (xs.map fun n => n + b, 0) := rfl
  rw [hfin]
  have HDR : xs.drop xs.length = [] := List.drop_length
  have HEND := Lib.hid (show (xs.take xs.length).map (fun n => n + b) ++ xs.drop xs.length = xs.map fun n => n + b by rw [List.take_length, HDR, List.append_nil])
  have H0 := Lib.hid (show (xs.take 0).map (fun n => n + b) ++ xs.drop 0 = xs by simp)
  have HML := Lib.hid (show (xs.map fun n => n + b).length = xs.length by simp)
  clear HDR hfin he
  by_cases ha : xs.any (over b) = true
  · rw [if_pos ha]
    have hpn : (P.plc (over b) 0 xs).length ≠ 0 := fun h => by rw [hpl] at h; rw [h] at ha; simp at ha
    generalize P.plc (over b) 0 xs = ps at *
    have g3 : 0 < ps.length := by omega
    clear hpl ha hpn
    go_enter Tryz.func102, Tryz.ntmps102
    go_wp2_with fail
    refine (HP.out _).mono ?_
    rintro e1 w1 ⟨A, N, c, rfl, hN, hr, hb⟩
    subst hN
    go_wp2_with fail
    have hb2 : Below w1.heap.size w1 (w1.alloc (.cells #[.int .u64 (b : Int)] 46)) := (Below.refl _ _).alloc (Nat.le_refl _) _
    obtain ⟨a', c', hev, hnum⟩ := numRow_nums hr
    obtain ⟨rfl, -, rfl⟩ : A = a' ∧ xs.length = xs.length ∧ c = c' := by injection hev with h1 h2 h3; exact ⟨h1, h2, h3⟩
    refine (HPR.out w1.heap.size _ (heap_alloc_new w1 _) A c (hnum.next hb2)).mono ?_
    rintro e2 w2 ⟨a2, c2, rfl, _, hb3⟩
    have h3 := below_then hb (below_then hb2 hb3)
    clear hev
    have g4 : decide ((0 : Int) < (ps.length : Int)) = true := decide_eq_true (by omega)
    go_wp2_with fail
    go_ret2
    exact ⟨none, 0, rfl, nf_none _ _, h3⟩
  rw [if_neg ha]
  have ha' : xs.any (over b) = false := by simpa using ha
  have hpn := hpl.2 ha'
  have HPN := Lib.hid hpn
  have HOV2 := Lib.hid (fun j h => HOV.out j h ha')
  generalize P.plc (over b) 0 xs = ps at *
  clear hpl ha ha' HOV hpn
  go_enter Tryz.func102, Tryz.ntmps102
  go_wp2_with fail
  refine (HP.out _).mono ?_
  rintro e1 w1 ⟨A, N, c, rfl, hN, hr, hb⟩
  subst hN
  have hb2 : Below w1.heap.size w1 (w1.alloc (.cells #[.int .u64 (b : Int)] 46)) := (Below.refl _ _).alloc (Nat.le_refl _) _
  obtain ⟨a', c', hev, hnum⟩ := numRow_nums hr
  obtain ⟨rfl, -, rfl⟩ : A = a' ∧ xs.length = xs.length ∧ c = c' := by injection hev with h1 h2 h3; exact ⟨h1, h2, h3⟩
  clear hev
  go_wp2_with fail
  refine (HPR.out w1.heap.size _ (heap_alloc_new w1 _) A c (hnum.next hb2)).mono ?_
  rintro e2 w2 ⟨a2, c2, rfl, _, hb3⟩
  have h23 := below_then hb2 hb3
  have h3 := below_then hb h23
  rw [HPN.out]
  have hr2 := hr.below h23
  have hbox : Boxed w2 w1.heap.size 46 (.int .u64 b) := (hb3.block w1.heap.size (by simp)).trans (heap_alloc_new w1 _)
  have HR1 := Lib.hid hr
  obtain ⟨C, hC⟩ : ∃ C, C = w1.heap.size := ⟨_, rfl⟩
  have HC := Lib.hid hC
  rw [← hC] at hbox ⊢
  have hCw : w.heap.size ≤ C := by have := hb.size; omega
  clear hr hnum hC
  go_wp2_with fail
  go_loopw [10, 33] (fun _ i wr => ∃ j : Nat, j ≤ xs.length ∧ i = .int .i64 j ∧ NumRow w.heap.size ((xs.take j).map (fun n => n + b) ++ xs.drop j) (.slice A xs.length c) wr ∧ Boxed wr C 46 (.int .u64 b) ∧ Below w.heap.size w wr) (fun _ i _ => xs.length - (intOf i).toNat)
  case atStart => exact ⟨0, by omega, rfl, by rw [H0.out]; exact hr2, hbox, h3⟩
  case round =>
    obtain ⟨j, hj, rfl, hnr, hbx, hbw⟩ := hrel
    by_cases hlt : j < xs.length
    · obtain ⟨g, rfl, hcl, hgw, hgs⟩ := HR1.out.form (fun e => by rw [e] at hlt; simp at hlt)
      have hln := HLN.out j hj
      have cj := hnr.cell j (by omega)
      rw [HAT.out j hlt] at cj
      have fj := hnr.free j
      have hov := HOV2.out j hlt
      have HS := Lib.hid (HST.out j hlt)
      have hgC : g ≠ C := by have := HC.out; omega
      have cb := hbx.cell
      generalize xs.getD j 0 = x at *
      generalize (xs.take j).map (fun n => n + b) ++ xs.drop j = acc at *
      have hwr : IntKind.u64.wrap ((x : Int) + (b : Int)) = ((x + b : Nat) : Int) := by rw [IntKind.wrap_u64]; omega
      have hw2 : (x : Int) + (b : Int) = ((x + b : Nat) : Int) := by omega
      generalize x + b = y at *
      have hjI : (j : Int) < (xs.length : Int) := by omega
      have HNR2 := Lib.hid (hnr.drew_.put j y)
      have HBX2 := Lib.hid (show Boxed (wr.drew.setCell ⟨g, j, none⟩ (.int .u64 (y : Int))) C 46 (.int .u64 b) from ((grown_setC wr.drew g j (.int .u64 (y : Int))).block C hbx.lt (fun e => hgC (by injection e with e; exact e.symm))).trans hbx)
      have HBW2 := Lib.hid (hbw.drew.setCell (p := ⟨g, j, none⟩) hgw (.int .u64 (y : Int)))
      clear hnr hcl hln hbx hgC
      go_wp2_with fail
      go_region
      all_goals
        go_wp2_with fail
        exact ⟨⟨j + 1, by omega, by go_num, by rw [← HS.out]; exact HNR2.out, HBX2.out, HBW2.out⟩, by simp [intOf]; omega⟩
    · obtain rfl : j = xs.length := by omega
      rw [HEND.out] at hnr
      obtain ⟨a', c', hev, hnum⟩ := numRow_nums hnr
      obtain ⟨rfl, rfl⟩ : A = a' ∧ c = c' := by injection hev with h1 h2 h3; exact ⟨h1, h3⟩
      have HNM := Lib.hid hnr.nf
      clear hev hnr hnum
      go_wp2_with fail
      go_ret2
      exact ⟨A, c, by rw [HML.out]; rfl, HNM.out, hbw⟩
theorem preadf_any (s : ByteArray) (many : Int) (w : World) (hs : s.size ≤ maxLen) :
    Calls Tryz.prog 102 #[.string s, .int .i64 many] w (AllPostF (P.read s.data.toList many) w) := by
  unfold P.read
  by_cases h0 : many < 0
  · rw [if_pos h0]
    have g1 : decide (many < 0) = true := decide_eq_true h0
    go_enter Tryz.func102, Tryz.ntmps102
    go_wp2_with fail
    go_ret2
    exact ⟨none, 0, rfl, nf_none _ _, Below.refl _ _⟩
  rw [if_neg h0]
  obtain ⟨m, rfl⟩ : ∃ m : Nat, many = m := ⟨many.toNat, by omega⟩
  by_cases h1 : 64 < (m : Int)
  · rw [if_pos h1]
    have g1 : decide ((m : Int) < 0) = false := decide_eq_false h0
    have g2 : decide ((64 : Int) < (m : Int)) = true := decide_eq_true h1
    go_enter Tryz.func102, Tryz.ntmps102
    go_wp2_with fail
    go_ret2
    exact ⟨none, 0, rfl, nf_none _ _, Below.refl _ _⟩
  rw [if_neg h1, Int.toNat_natCast]
  exact preadf_in s m w hs (by omega)
end Go.Proofs.YtmiboibadccceaaGreat
