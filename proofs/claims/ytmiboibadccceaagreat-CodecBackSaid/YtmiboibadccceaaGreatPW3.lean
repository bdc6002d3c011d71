/- The walk of patch.Write. -/
import Derived.Test.YtmiboibadccceaaGreatK7
namespace Go.Proofs.YtmiboibadccceaaGreat
open Go.RowKit
set_option linter.unusedVariables false

/-- what Write answers -/
def pwriteR (l : List Nat) : List UInt8 × Nat := if 64 < l.length then ([], 2) else (P.bytes l, 0)

theorem flat_take (m ps : List Nat) (j : Nat) (h : j < ps.length) : (ps.take (j + 1)).flatMap (P.one m) = (ps.take j).flatMap (P.one m) ++ [UInt8.ofNat (ps.getD j 0)] ++ V.enc (m.getD (ps.getD j 0) 0) := by
  rw [List.take_succ_eq_append_getElem h, List.flatMap_append]
  simp [P.one, List.getD, List.getElem?_eq_getElem h]
theorem flat_len (m ps : List Nat) : (ps.flatMap (P.one m)).length ≤ 10 * ps.length := by
  induction ps with
  | nil => simp
  | cons x t ih =>
    have h : (P.one m x).length ≤ 10 := by unfold P.one; rw [List.length_cons, V.enc_length]; have := V.sz_le (m.getD x 0); omega
    rw [List.flatMap_cons, List.length_append, List.length_cons]; omega
theorem zer_take (m ps : List Nat) (j : Nat) (h : j < ps.length) : (P.zer m (ps.take j)).set (ps.getD j 0) 0 = P.zer m (ps.take (j + 1)) := by
  rw [P.zer_snoc, List.take_succ_eq_append_getElem h]; simp [List.getD, List.getElem?_eq_getElem h]
theorem zer_at (m ps : List Nat) (j : Nat) (h : j < ps.length) (hn : ps.Nodup) (hm : ps.getD j 0 < m.length) : (P.zer m (ps.take j)).getD (ps.getD j 0) 0 = m.getD (ps.getD j 0) 0 := by
  rw [P.zer_get _ _ _ hm, if_neg]
  intro hin
  have e : ps.getD j 0 = ps[j] := by simp [List.getD, List.getElem?_eq_getElem h]
  rw [e] at hin
  obtain ⟨i, hi, he⟩ := List.mem_iff_getElem.1 hin
  rw [List.length_take] at hi
  rw [List.getElem_take] at he
  exact absurd ((List.getElem_inj hn).1 he) (by omega)

/-- what is not the block of the list that is changed is as it was -/
def Rest (w3 : World) (A : Option Addr) (wr : World) : Prop := ∀ b o, b < w3.heap.size → A ≠ some ⟨b, 0, none⟩ → wr.cell? ⟨b, o, none⟩ = w3.cell? ⟨b, o, none⟩

theorem Rest.step {w3 wr w7 : World} {g : Nat} (h : Rest w3 (some ⟨g, 0, none⟩) wr) (hb : Below w3.heap.size wr w7) (i : Nat) (u : Value) : Rest w3 (some ⟨g, 0, none⟩) (w7.setCell ⟨g, i, none⟩ u) := by
  intro b o hlt hne
  have hbg : g ≠ b := fun e => hne (by rw [e])
  have e1 : (w7.setCell ⟨g, i, none⟩ u).cell? ⟨b, o, none⟩ = w7.cell? ⟨b, o, none⟩ := World.cell?_of_block (by simp [World.setCell, Array.getElem?_modify, hbg])
  rw [e1, hb.cell (p := ⟨b, o, none⟩) hlt]
  exact h b o hlt hne
theorem run_text2 (W : World) (g : Nat) (a b : Nat) (ha : a < 256) (hb : b < 256) (h0 : W.cell? ⟨g, 0, none⟩ = some (.int .u8 (a : Int))) (h1 : W.cell? ⟨g, 1, none⟩ = some (.int .u8 (b : Int))) :
    (convert 78 9 (.slice (some ⟨g, 0, none⟩) 2 2)).run Tryz.prog W = .ok (.string (str [UInt8.ofNat a, UInt8.ofNat b])) W := by
  rw [← str_of [UInt8.ofNat a, UInt8.ofNat b]]
  refine run_convert_bytes_arg _ 78 5 Tryz.underlying78 Tryz.underlying5 _ 0 2 2 _ (by simp) ?_ 9 Tryz.underlying9
  intro i hi
  have ea : ((UInt8.ofNat a).toNat : Int) = (a : Int) := by simp; omega
  have eb : ((UInt8.ofNat b).toNat : Int) = (b : Int) := by simp; omega
  match i, hi with
  | 0, _ => rw [h0]; simp only [List.map_cons, ea]; rfl
  | 1, _ => rw [h1]; simp only [List.map_cons, eb]; rfl

set_option maxHeartbeats 6000000 in
set_option maxRecDepth 100000 in
theorem pwrite_ok (a : Option Addr) (c : Nat) (l : List Nat) (w : World) (hl : l.length ≤ 64) (hx : ∀ x ∈ l, x < 18446744073709551616) (hu : Nums w w.heap.size a l) :
    Calls Tryz.prog 30 #[.slice a l.length c] w (PackPost (P.bytes l, 0) w) := by
  have hml := P.more_length l
  have hmx := P.more_lt l hx
  have hfr := frame_any a c l w hl hx hu
  have hbest := fun A c' W h => best_any A c' (P.more l) W (by omega) hmx h
  have hwd := P.best_le (P.more l)
  have hout := fun A c' W h => outside_any A c' (P.more l) (P.best (P.more l)) W hwd (by omega) h
  have hbl := P.base_lt l hx
  have hpk := fun A c' W h => pack_any A c' (P.ins (P.best (P.more l)) (P.more l)) (P.best (P.more l)) W (P.ins_lt _ _ hmx) h
  have hpr : packR (P.ins (P.best (P.more l)) (P.more l)) (P.best (P.more l)) = (H.pkd (P.best (P.more l)) (P.ins (P.best (P.more l)) (P.more l)), 0) := by
    unfold packR
    rw [if_neg (by omega), if_neg (by rw [P.ins_length]; omega), Int.toNat_natCast, if_neg (by have := (B.wd_le (P.ins (P.best (P.more l)) (P.more l)) (P.best (P.more l))).2 (P.ins_fit _ _); omega)]; rfl
  rw [hpr] at hpk
  have hil := P.ins_length (P.best (P.more l)) (P.more l)
  rw [hil, hml] at hpk
  rw [hml] at hbest hout
  have hpl := P.plc_len (P.out (P.best (P.more l))) 0 (P.more l)
  have hnd := P.plc_nodup (P.out (P.best (P.more l))) 0 (P.more l)
  have HPL := Lib.hid (fun a (h : a ∈ P.plc (P.out (P.best (P.more l))) 0 (P.more l)) => show a < l.length by have := (P.plc_lt (P.out (P.best (P.more l))) 0 (P.more l) a h).2; omega)
  have HZ := Lib.hid (P.zer_all (P.best (P.more l)) (P.more l))
  have HT := Lib.hid (P.tail_all (P.best (P.more l)) (P.more l))
  have hkl : (H.pkd (P.best (P.more l)) (P.ins (P.best (P.more l)) (P.more l))).length ≤ 512 := by
    rw [H.pkd_length, hil]
    have := Nat.mul_le_mul (show (P.more l).length ≤ 64 by omega) hwd
    unfold B.sz; omega
  have hres : P.bytes l = V.enc (P.base l) ++ [UInt8.ofNat (P.best (P.more l)), UInt8.ofNat (P.plc (P.out (P.best (P.more l))) 0 (P.more l)).length] ++ H.pkd (P.best (P.more l)) (P.ins (P.best (P.more l)) (P.more l)) ++ P.tail (P.best (P.more l)) 0 (P.more l) := rfl
  rw [hres]
  unfold FramePost at hfr
  generalize P.base l = bs at *
  generalize P.more l = mo at *
  generalize P.best mo = wd at *
  generalize P.plc (P.out wd) 0 mo = ps at *
  generalize P.ins wd mo = im at *
  generalize H.pkd wd im = kd at *
  generalize P.tail wd 0 mo = tl at *
  have HFR := Lib.hid hfr
  have HBEST := Lib.hid hbest
  have HOUT := Lib.hid hout
  have HPK := Lib.hid hpk
  have HRN := Lib.hid (fun (A : Option Addr) (n c' B : Nat) (xs : List Nat) (W : World) (h : NumRow B xs (.slice A n c') W) => show Nums W W.heap.size A xs by
    obtain ⟨a', c'', e, hn⟩ := numRow_nums h
    injection e with e1 e2 e3
    rw [e1]; exact hn)
  have HGM := Lib.hid (fun j (h : j < ps.length) => getD_mem ps j h)
  have HMX := Lib.hid (fun k (h : k < mo.length) => hmx _ (getD_mem mo k h))
  have HFT := Lib.hid (fun j h => flat_take mo ps j h)
  have HFL := Lib.hid (fun j => flat_len mo (ps.take j))
  have HZT := Lib.hid (fun j h => zer_take mo ps j h)
  have HZA := Lib.hid (fun j h hm => zer_at mo ps j h hnd hm)
  have HZL := Lib.hid (fun j => P.zer_length mo (ps.take j))
  have HZ0 := Lib.hid (show P.zer mo (ps.take 0) = mo from P.zer_nil mo)
  have HML := Lib.hid hml
  have g1 : decide ((64 : Int) < (l.length : Int)) = false := decide_eq_false (by omega)
  have hpll : ps.length ≤ l.length := by omega
  clear hfr hbest hout hpk hmx hx hu hpr hil hnd hres hml hpl
  go_enter Tryz.func30, Tryz.ntmps30
  go_wp2_with fail
  refine (HFR.out).mono ?_
  rintro e w1 ⟨a1, c1, rfl, r1, hb1⟩
  go_wp2_with fail
  refine (HBEST.out _ _ _ (HRN.out _ _ _ _ _ _ r1)).mono ?_
  rintro e w2 ⟨rfl, hb2⟩
  have r2 := r1.below hb2
  have h2 := below_then hb1 hb2
  go_wp2_with fail
  refine (HOUT.out _ _ _ (HRN.out _ _ _ _ _ _ r2)).mono ?_
  rintro e w3 ⟨a3, c3, rfl, p3, hb3⟩
  have r3 := r2.below hb3
  have h3 := below_then h2 hb3
  have P3 := Lib.hid p3
  have R2 := Lib.hid r2
  have hs2 := hb2.size
  have hs3 := hb3.size
  have hs1 := hb1.size
  clear r1 r2 p3
  go_wp2_with fail
  go_loopw [8, 10, 28] (fun v _ i wr => ∃ j : Nat, j ≤ ps.length ∧ i = .int .i64 j ∧ BRow w3.heap.size ((ps.take j).flatMap (P.one mo)) v wr ∧ NumRow w.heap.size (P.zer mo (ps.take j)) (.slice a1 l.length c1) wr ∧ Rest w3 a1 wr ∧ w3.heap.size ≤ wr.heap.size ∧ Below w.heap.size w wr) (fun _ _ i _ => ps.length - (intOf i).toNat)
  case atStart => exact ⟨0, by omega, rfl, BRow.nil_ _ _, by rw [HZ0.out]; exact r3, fun b o _ _ => rfl, Nat.le_refl _, h3⟩
  case round =>
    obtain ⟨j, hj, rfl, hbr, hnr, hrest, hsz, hbw⟩ := hrel
    by_cases hlt : j < ps.length
    · obtain ⟨g3, rfl, hcl3, hg3, hg3'⟩ := P3.out.form (fun e => by rw [e] at hlt; simp at hlt)
      have hpj := HPL.out _ (HGM.out j hlt)
      have cj0 := P3.out.cell j hlt
      have HF := Lib.hid (HFT.out j hlt)
      have HZJ := Lib.hid (HZT.out j hlt)
      have hza := HZA.out j hlt (by rw [HML.out]; exact hpj)
      have hfl := HFL.out j
      rw [List.length_take] at hfl
      have hzl := HZL.out j
      generalize ps.getD j 0 = p at *
      obtain ⟨g, rfl, hcl4, hgw, hg2⟩ := R2.out.form (fun e => by have := HML.out; rw [e] at this; simp at this; omega)
      clear hcl3 hcl4
      have hgg3 : g ≠ g3 := by omega
      have hg2 : g < w3.heap.size := by omega
      have cj : wr.cell? ⟨g3, j, none⟩ = some (.int .i64 (p : Int)) := (hrest g3 j hg3' (fun e => hgg3 (by injection e with e; injection e))).trans cj0
      have hxp := HMX.out p (by rw [HML.out]; exact hpj)
      have cp := hnr.cell p (by rw [hzl, HML.out]; exact hpj)
      rw [hza] at cp
      have fp := hnr.free p
      generalize mo.getD p 0 = x at *
      generalize (ps.take j).flatMap (P.one mo) = acc at *
      generalize P.zer mo (ps.take j) = zz at *
      have HWR := Lib.hid (fun W => write_any x W hxp)
      obtain ⟨t, ht⟩ : ∃ t, t = str (V.enc x) := ⟨_, rfl⟩
      have HW2 := Lib.hid (fun W => show Calls Tryz.prog 71 #[.int .u64 (x : Int)] W (fun e w' => e = .returned (.string t) ∧ Below W.heap.size W w') by rw [ht]; exact HWR.out W)
      have HTT := Lib.hid ht
      have hel := V.enc_length x
      have hs9 := V.sz_le x
      have hp8 : ((UInt8.ofNat p).toNat : Int) = (p : Int) := by simp; omega
      have hpw : IntKind.u8.wrap (p : Int) = (p : Int) := by rw [IntKind.wrap_u8]; omega
      have hpm : (p : Int) % 256 = (p : Int) := by omega
      have HBR := Lib.hid hbr
      have HNR := Lib.hid hnr
      have HREST := Lib.hid hrest
      have hjI : (j : Int) < (ps.length : Int) := by omega
      have hpI : (p : Int) < (l.length : Int) := by omega
      have hp8' := Lib.hid hp8
      have hgwr : g < wr.heap.size := by omega
      clear hbr hnr hrest ht HWR hp8 hza cj0 hgg3 hg3
      have hb5 : w3.heap.size ≤ (wr.alloc (.cells #[.int .u8 (p : Int)] 5)).heap.size := by simp; omega
      go_wp2_with (at_builtin; refine wpList_append_oneb rfl (.tmp 32) (.tmp 35) rfl w3.heap.size _ acc rfl (HBR.out.alloc_ _) wr.heap.size (UInt8.ofNat p) rfl (by rw [hp8'.out]; exact World.cell?_alloc_new _ _ _ _) (by omega) hb5 ?_)
      intro v5 w5 hbr5 hlow5
      have hA : Below w3.heap.size wr w5 := ((Below.refl _ wr).alloc hsz _).trans hlow5
      have c5 : w5.cell? ⟨g, p, none⟩ = some (.int .u64 (x : Int)) := (hA.cell (p := ⟨g, p, none⟩) hg2).trans cp
      have HBR5 := Lib.hid hbr5
      clear hbr5
      go_wp2_with fail
      refine (HW2.out _).mono ?_
      rintro e w6 ⟨rfl, hb6⟩
      have hB : Below w3.heap.size wr w6 := hA.trans (hb6.mono (by have := hA.size; omega))
      have hsz6 : w3.heap.size ≤ w6.heap.size := by have := hB.size; omega
      have HBR6 := Lib.hid (HBR5.out.below hb6)
      go_wp2_with (at_builtin; refine wpList_append_texts rfl (.tmp 37) (.tmp 42) rfl w3.heap.size _ (acc ++ [UInt8.ofNat p]) rfl HBR6.out t (V.enc x) HTT.out rfl ?_ hsz6 ?_)
      · rw [List.length_append, List.length_singleton]; omega
      intro v7 w7 hbr7 hlow7
      have hC : Below w3.heap.size wr w7 := hB.trans hlow7
      have c7 : w7.cell? ⟨g, p, none⟩ = some (.int .u64 (x : Int)) := (hC.cell (p := ⟨g, p, none⟩) hg2).trans cp
      have f7 : w7.frozen? ⟨g, p, none⟩ = false := (hC.frozen (p := ⟨g, p, none⟩) hg2).trans fp
      have HBR7 := Lib.hid hbr7
      have hszC := hC.size
      have HFIN := Lib.hid (show BRow w3.heap.size (acc ++ [UInt8.ofNat p] ++ V.enc x) v7 (w7.setCell ⟨g, p, none⟩ (.int .u64 ((0 : Nat) : Int))) by simpa using HBR7.out.far g p _ hg2)
      have HFN := Lib.hid ((HNR.out.keep (hC.block g hg2)).put p 0)
      have HFR := Lib.hid (HREST.out.step hC p (.int .u64 ((0 : Nat) : Int)))
      have HFB := Lib.hid ((hbw.trans (hC.mono (by omega))).setCell (p := ⟨g, p, none⟩) hgw (.int .u64 ((0 : Nat) : Int)))
      clear hbr7
      go_wp2_with fail
      exact ⟨⟨j + 1, by omega, by go_num, by rw [HF.out]; exact HFIN.out, by rw [← HZJ.out]; exact HFN.out, HFR.out, by simp; omega, HFB.out⟩, by simp [intOf]; omega⟩
    · obtain rfl : j = ps.length := by omega
      rw [List.take_length, HT.out] at hbr
      rw [List.take_length, HZ.out] at hnr
      have HBR := Lib.hid hbr
      have htl : tl.length ≤ 640 := by have := HFL.out ps.length; rw [List.take_length, HT.out] at this; omega
      obtain ⟨t1, ht1⟩ : ∃ t1, t1 = str (V.enc bs) := ⟨_, rfl⟩
      obtain ⟨t2, ht2⟩ : ∃ t2, t2 = str [UInt8.ofNat wd, UInt8.ofNat ps.length] := ⟨_, rfl⟩
      obtain ⟨t3, ht3⟩ : ∃ t3, t3 = str kd := ⟨_, rfl⟩
      obtain ⟨t4, ht4⟩ : ∃ t4, t4 = str tl := ⟨_, rfl⟩
      have HPKN := Lib.hid (show Calls Tryz.prog 72 #[.slice a1 l.length c1, .int .i64 wd] wr (fun e w' => e = .returned (.tuple #[.string t3, .int .i64 0]) ∧ Below wr.heap.size wr w') by rw [ht3]; exact HPK.out a1 c1 wr (HRN.out _ _ _ _ _ _ hnr))
      have hs1' : t1.size ≤ 9 := by rw [ht1, str_size, V.enc_length]; exact V.sz_le _
      have hs2' : t2.size = 2 := by rw [ht2]; rfl
      have hs3' : t3.size ≤ 512 := by rw [ht3, str_size]; exact hkl
      have hs4' : t4.size ≤ 640 := by rw [ht4, str_size]; exact htl
      have hcat1 : ¬ 9223372036854775807 < t1.size + 2 := by omega
      have hcat2 : ¬ 9223372036854775807 < t1.size + 2 + t3.size := by omega
      have hcat3 : ¬ 9223372036854775807 < t1.size + 2 + t3.size + t4.size := by omega
      have HSUM := Lib.hid (show t1 ++ t2 ++ t3 ++ t4 = str (V.enc bs ++ [UInt8.ofNat wd, UInt8.ofNat ps.length] ++ kd ++ tl) by rw [ht1, ht2, ht3, ht4, str_append, str_append, str_append])
      have HVW := Lib.hid (fun W => show Calls Tryz.prog 71 #[.int .u64 (bs : Nat)] W (fun e w' => e = .returned (.string t1) ∧ Below W.heap.size W w') by rw [ht1]; exact write_any bs W hbl)
      have hFW := fun W (h : BRow w3.heap.size tl u8 W) => h.text
      rw [← ht4] at hFW
      have HFW := Lib.hid hFW
      have hTW := fun W g h0 h1 => run_text2 W g wd ps.length (by omega) (by omega) h0 h1
      rw [← ht2] at hTW
      have HTW := Lib.hid hTW
      have hpw1 : IntKind.u8.wrap (wd : Int) = (wd : Int) := by rw [IntKind.wrap_u8]; omega
      have hpw2 : IntKind.u8.wrap (ps.length : Int) = (ps.length : Int) := by rw [IntKind.wrap_u8]; omega
      have hpm1 : (wd : Int) % 256 = (wd : Int) := by omega
      have hpm2 : (ps.length : Int) % 256 = (ps.length : Int) := by omega
      clear hbr hnr hrest ht1 ht2 ht3 ht4 hFW hTW
      go_wp2_with fail
      refine (HPKN.out).mono ?_
      rintro e w4 ⟨rfl, hb4⟩
      have HBR4 := Lib.hid (HBR.out.below hb4)
      have hF1 := HFW.out _ HBR4.out
      have hF2 := HFW.out _ HBR4.out.drew_
      have hF3 := fun X => HFW.out _ (HBR4.out.alloc_ X)
      have hF4 := fun X => HFW.out _ (HBR4.out.alloc_ X).drew_
      have hcv : ∀ (W : World) (g : Nat), g = W.heap.size → (convert 78 9 (.slice (some ⟨g, 0, none⟩) 2 2)).run Tryz.prog (W.alloc (.cells #[.int .u8 (wd : Int), .int .u8 (ps.length : Int)] 5)) = .ok (.string t2) (W.alloc (.cells #[.int .u8 (wd : Int), .int .u8 (ps.length : Int)] 5)) :=
        fun W g hg => HTW.out _ g (by rw [hg, World.cell?_alloc_new]; rfl) (by rw [hg, World.cell?_alloc_new]; rfl)
      have hcv2 : ∀ (W : World) (g : Nat), g = W.heap.size → (convert 78 9 (.slice (some ⟨g, 0, none⟩) 2 2)).run Tryz.prog (W.alloc (.cells #[.int .u8 (wd : Int), .int .u8 (ps.length : Int)] 5)).drew = .ok (.string t2) (W.alloc (.cells #[.int .u8 (wd : Int), .int .u8 (ps.length : Int)] 5)).drew :=
        fun W g hg => HTW.out _ g (show (W.alloc (.cells #[.int .u8 (wd : Int), .int .u8 (ps.length : Int)] 5)).cell? ⟨g, 0, none⟩ = _ by rw [hg, World.cell?_alloc_new]; rfl) (show (W.alloc (.cells #[.int .u8 (wd : Int), .int .u8 (ps.length : Int)] 5)).cell? ⟨g, 1, none⟩ = _ by rw [hg, World.cell?_alloc_new]; rfl)
      have h4 := below_then hbw hb4
      have hsz4 := h4.size
      go_wp2_with fail
      go_region_with (go_at_call 71; refine (HVW.out _).mono ?_; rintro e w5 ⟨rfl, hb5⟩; have hfin : Below w.heap.size w w5 := (by first | exact below_then h4 hb5 | exact below_then h4.drew hb5 | exact below_then (h4.alloc hsz4 _) hb5 | exact below_then (h4.alloc hsz4 _).drew hb5); have hbr5 : BRow w3.heap.size tl u8 w5 := (by first | exact HBR4.out.below hb5 | exact HBR4.out.drew_.below hb5 | exact (HBR4.out.alloc_ _).below hb5 | exact (HBR4.out.alloc_ _).drew_.below hb5); have hF5 := HFW.out _ hbr5; have hF6 := (fun X => HFW.out _ (hbr5.alloc_ X)); clear hbr5; try have hcg := HTW.out w5 w4.heap.size ((hb5.cell (p := ⟨w4.heap.size, 0, none⟩) (by simp)).trans (World.cell?_alloc_new w4 _ _ 0)) ((hb5.cell (p := ⟨w4.heap.size, 1, none⟩) (by simp)).trans (World.cell?_alloc_new w4 _ _ 1)))
      all_goals
        go_wp2_with fail
        go_ret2
        exact ⟨by rw [← HSUM.out]; rfl, by first | with_reducible exact hfin | exact hfin.alloc hfin.size _⟩

theorem pwrite_any (a : Option Addr) (c : Nat) (l : List Nat) (w : World) (hx : ∀ x ∈ l, x < 18446744073709551616) (hu : Nums w w.heap.size a l) :
    Calls Tryz.prog 30 #[.slice a l.length c] w (PackPost (pwriteR l) w) := by
  unfold pwriteR
  by_cases h : 64 < l.length
  · rw [if_pos h]
    have g1 : decide ((64 : Int) < (l.length : Int)) = true := decide_eq_true (by omega)
    go_enter Tryz.func30, Tryz.ntmps30
    go_wp2_with fail
    go_ret2
    exact ⟨rfl, Below.refl _ _⟩
  · rw [if_neg h]
    exact pwrite_ok a c l w (by omega) hx hu
end Go.Proofs.YtmiboibadccceaaGreat
