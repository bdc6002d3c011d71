/- The walks of codec.sayPlain, sayBook, sayTexts, Texts. -/
import Derived.Test.YtmiboibadccceaaGreatKW1
namespace Go.Proofs.YtmiboibadccceaaGreat
open Go.RowKit
set_option linter.unusedVariables false

set_option maxHeartbeats 2000000 in
set_option maxRecDepth 100000 in
theorem sayPlain_any (a : Option Addr) (c : Nat) (l : List (List UInt8)) (w : World) (hf : fitR l = 0) (hu : Txts w w.heap.size a l) :
    Calls Tryz.prog 93 #[.slice a l.length c] w (TextPost (plainB l) w) := by
  obtain ⟨hl, hx⟩ := fit_zero hf
  have HU := Lib.hid hu
  have HS := Lib.hid (fun j (h : j < l.length) => show plainB (l.take (j + 1)) = plainB (l.take j) ++ V.enc (l.getD j []).length ++ l.getD j [] by rw [plainB_snoc l j h, List.append_assoc])
  have HLL := Lib.hid (fun j => show (plainB (l.take j)).length ≤ 1600 by
    have := plainB_len (l.take j) (fun x hx' => hx x (List.mem_of_mem_take hx'))
    rw [List.length_take] at this; omega)
  have HXL := Lib.hid (fun j (h : j < l.length) => hx _ (tgetD_mem l j h))
  clear hu hx hf
  go_enter Tryz.func93, Tryz.ntmps93
  go_wp2_with fail
  go_loopw [3, 5, 8] (fun v _ i wr => ∃ j : Nat, j ≤ l.length ∧ i = .int .i64 j ∧ BRow w.heap.size (plainB (l.take j)) v wr ∧ Below w.heap.size w wr) (fun _ _ i _ => l.length - (intOf i).toNat)
  case atStart => exact ⟨0, by omega, rfl, BRow.nil_ _ _, Below.refl _ _⟩
  case round =>
    obtain ⟨j, hj, rfl, hbr, hbw⟩ := hrel
    by_cases hlt : j < l.length
    · obtain ⟨b, off, rfl, hb, hcc⟩ := HU.out (fun e => by rw [e] at hlt; simp at hlt)
      have cj := (hbw.cell (p := ⟨b, off + j, none⟩) hb).trans (hcc j hlt)
      have HSJ := Lib.hid (HS.out j hlt)
      have hlj := HLL.out j
      have hxl := HXL.out j hlt
      have hjI : (j : Int) < (l.length : Int) := by omega
      generalize l.getD j [] = x at *
      generalize plainB (l.take j) = acc at *
      have hsx := str_size x
      have hen : (V.enc x.length).length ≤ 9 := by rw [V.enc_length]; exact V.sz_le _
      have hV := fun W => write_any x.length W (by omega)
      unfold WritePost at hV
      rw [← hsx] at hV
      rw [← hsx] at HSJ hen
      have HX2 := Lib.hid (show ∃ X, X = str x from ⟨_, rfl⟩)
      obtain ⟨X, hX⟩ := HX2.out
      rw [← hX] at hsx hV cj HSJ hen
      have HX := Lib.hid hX
      generalize V.enc X.size = et at *
      have hw3 : IntKind.u64.wrap (X.size : Int) = (X.size : Int) := by rw [IntKind.wrap_u64]; omega
      have HV := Lib.hid hV
      have hx16 : x.length ≤ 16 := hxl
      clear hX hcc hV hxl HX2 hsx
      go_wp2_with fail
      refine (HV.out _).mono ?_
      rintro e w2 ⟨rfl, hb2⟩
      have hsw := hbw.size
      have hbr2 : BRow w.heap.size acc _ w2 := hbr.below hb2
      have hbw2 := below_then hbw hb2
      have HBR2 := Lib.hid hbr2
      have hsz2 : w.heap.size ≤ w2.heap.size := hbw2.size
      clear hbr hbr2 hb2
      go_wp2_with (at_builtin; refine wpList_append_texts rfl (.tmp 12) (.tmp 16) rfl w.heap.size _ acc rfl HBR2.out (str et) et rfl rfl (by omega) hsz2 ?_)
      intro v5 w5 hbr5 hlow5
      have HBR5 := Lib.hid hbr5
      have hsz5 : w.heap.size ≤ w5.heap.size := by have := hlow5.size; omega
      clear hbr5
      go_wp2_with (at_builtin; refine wpList_append_texts rfl (.tmp 18) (.tmp 19) rfl w.heap.size _ (acc ++ et) rfl HBR5.out X x HX.out rfl ?_ hsz5 ?_)
      · rw [List.length_append]; omega
      intro v6 w6 hbr6 hlow6
      have HBR6 := Lib.hid hbr6
      clear hbr6
      go_wp2_with fail
      exact ⟨⟨j + 1, by omega, by go_num, by rw [HSJ.out, List.append_assoc]; exact HBR6.out, (hbw2.trans hlow5).trans hlow6⟩, by simp [intOf]; omega⟩
    · obtain rfl : j = l.length := by omega
      rw [List.take_length] at hbr
      have ht := hbr.text
      clear hbr
      go_wp2_with fail
      go_ret
      exact ⟨rfl, hbw⟩

def bookB (l : List (List UInt8)) : List UInt8 := V.enc (T.bk l).length ++ B.le (B.sz (l.length * bw (T.bk l).length)) (B.pk (bw (T.bk l).length) (l.map (T.plc (T.bk l)))) ++ F.fb [] (T.bk l)
set_option maxHeartbeats 2000000 in
set_option maxRecDepth 100000 in
theorem sayBook_any (a : Option Addr) (c : Nat) (l : List (List UInt8)) (w : World) (hf : fitR l = 0) (hu : Txts w w.heap.size a l) :
    Calls Tryz.prog 94 #[.slice a l.length c] w (PackPost (bookB l, 0) w) := by
  obtain ⟨hl, hx⟩ := fit_zero hf
  have hO := dictOf_any a c l w hu
  rw [show ofR l = (T.bk l, l.map (T.plc (T.bk l)), 0) by unfold ofR; rw [if_neg (by rw [hf]; simp)]] at hO
  unfold OfPost at hO
  rw [List.length_map] at hO
  have hbl := bk_length l
  have hbk : (T.bk l).length ≤ 64 := by omega
  have HV := Lib.hid (fun W => show Calls Tryz.prog 71 #[.int .u64 ((T.bk l).length : Int)] W (fun e w' => e = .returned (.string (str (V.enc (T.bk l).length))) ∧ Below W.heap.size W w') from write_any (T.bk l).length W (by omega))
  have HW := Lib.hid (fun W => wideOf_any (T.bk l).length W hbk)
  have hcl : ∀ x ∈ l.map (T.plc (T.bk l)), x < (T.bk l).length := fun x h => by
    obtain ⟨y, hy, rfl⟩ := List.mem_map.1 h
    exact (code_lt hy).1
  have hcl2 : ∀ x ∈ l.map (T.plc (T.bk l)), x < 2 ^ bw (T.bk l).length := fun x h => bw_fit (hcl x h)
  have hbw := bw_le _ hbk
  have hpr : packR (l.map (T.plc (T.bk l))) (bw (T.bk l).length : Nat) = (B.le (B.sz (l.length * bw (T.bk l).length)) (B.pk (bw (T.bk l).length) (l.map (T.plc (T.bk l)))), 0) := by
    unfold packR
    have hw := (B.wd_le _ _).2 hcl2
    rw [if_neg (by omega), List.length_map, if_neg (by omega), Int.toNat_natCast, if_neg (by omega)]
  have hP := fun a2 c2 W (h : Nums W W.heap.size a2 (l.map (T.plc (T.bk l)))) => pack_any a2 c2 (l.map (T.plc (T.bk l))) (bw (T.bk l).length : Nat) W (fun x h => by have := hcl x h; omega) h
  rw [hpr, List.length_map] at hP
  have hF := fun a3 c3 W (h : Txts W W.heap.size a3 (T.bk l)) => fwrite_any a3 c3 (T.bk l) W h
  rw [show fwR (T.bk l) = (F.fb [] (T.bk l), 0) by unfold fwR; rw [if_neg (by rw [bk_fit hf]; simp)]] at hF
  have HR := Lib.hid (show str (bookB l) = str (V.enc (T.bk l).length) ++ str (B.le (B.sz (l.length * bw (T.bk l).length)) (B.pk (bw (T.bk l).length) (l.map (T.plc (T.bk l))))) ++ str (F.fb [] (T.bk l)) by rw [text_cat, text_cat]; rfl)
  have s2 : (str (V.enc (T.bk l).length)).size ≤ 9 := by rw [str_size, V.enc_length]; exact V.sz_le _
  have s3 : (str (B.le (B.sz (l.length * bw (T.bk l).length)) (B.pk (bw (T.bk l).length) (l.map (T.plc (T.bk l)))))).size ≤ 1048576 := by
    rw [str_size, B.le_length]; unfold B.sz
    have := Nat.mul_le_mul hl hbw
    omega
  have s4 : (str (F.fb [] (T.bk l))).size ≤ 1048576 := by
    rw [str_size]
    have := fb_bound (T.bk l) [] (fit_zero (bk_fit hf)).2
    omega
  unfold PackPost at hP ⊢
  unfold FwPost at hF
  simp only at hP hF hO ⊢
  have HP := Lib.hid hP
  have HF := Lib.hid hF
  have HO := Lib.hid hO
  clear hP hF hO hpr
  generalize str (bookB l) = R at *
  generalize l.map (T.plc (T.bk l)) = cs at *
  generalize T.bk l = bk at *
  generalize bw bk.length = wd at *
  generalize str (V.enc bk.length) = t2 at *
  generalize str (B.le (B.sz (l.length * wd)) (B.pk wd cs)) = t3 at *
  generalize str (F.fb [] bk) = t4 at *
  have c2 : ¬ 9223372036854775807 < t2.size + t3.size := by omega
  have c3 : ¬ 9223372036854775807 < t2.size + t3.size + t4.size := by omega
  have hw3 : IntKind.u64.wrap (bk.length : Int) = (bk.length : Int) := by rw [IntKind.wrap_u64]; omega
  clear s2 s3 s4 hx hu hf hcl hcl2
  go_enter Tryz.func94, Tryz.ntmps94
  go_wp2_with fail
  refine (HO.out).mono ?_
  rintro e w1 ⟨ab, cb, ac, cc, rfl, hT, hN, hb1⟩
  go_wp2_with fail
  refine (HW.out _).mono ?_
  rintro e w2 ⟨rfl, hb2⟩
  go_wp2_with fail
  refine (HP.out _ _ _ (hN.next hb2)).mono ?_
  rintro e w3 ⟨rfl, hb3⟩
  have r3 := below_then hb2 hb3
  go_wp2_with fail
  refine (HF.out _ _ _ (hT.next r3)).mono ?_
  rintro e w4 ⟨rfl, hb4⟩
  have r4 := below_then r3 hb4
  go_wp2_with fail
  refine (HV.out _).mono ?_
  rintro e w5 ⟨rfl, hb5⟩
  go_wp2_with fail
  go_ret2
  exact ⟨by rw [HR.out]; rfl, below_then (below_then hb1 r4) hb5⟩

def sayT (way : Nat) (l : List (List UInt8)) : List UInt8 := if way = 5 then plainB l else if way = 6 then bookB l else F.fb [] l
theorem txB_say (way : Nat) (l : List (List UInt8)) (h : 5 ≤ way ∧ way ≤ 7) : txB way l = UInt8.ofNat way :: sayT way l := by
  have h4 : way = 5 ∨ way = 6 ∨ way = 7 := by omega
  rcases h4 with rfl | rfl | rfl <;> simp [txB, sayT, bookB]
theorem sayT_len (way : Nat) (l : List (List UInt8)) (h : 5 ≤ way ∧ way ≤ 7) (hf : fitR l = 0) : (sayT way l).length ≤ 1048576 := by
  obtain ⟨hl, hx⟩ := fit_zero hf
  have h4 : way = 5 ∨ way = 6 ∨ way = 7 := by omega
  rcases h4 with rfl | rfl | rfl
  · show (plainB l).length ≤ _
    have := plainB_len l hx
    omega
  · show (bookB l).length ≤ _
    have hbl := bk_length l
    have hbk : (T.bk l).length ≤ 64 := by omega
    have := V.sz_le (T.bk l).length
    have h5 := fb_bound (T.bk l) [] (fit_zero (bk_fit hf)).2
    have h6 := Nat.mul_le_mul hl (bw_le _ hbk)
    unfold bookB
    rw [List.length_append, List.length_append, V.enc_length, B.le_length]
    unfold B.sz
    omega
  · show (F.fb [] l).length ≤ _
    have h5 := fb_bound l [] hx
    omega

set_option maxHeartbeats 1000000 in
set_option maxRecDepth 100000 in
theorem sayTexts_any (way : Nat) (a : Option Addr) (c : Nat) (l : List (List UInt8)) (w : World) (hway : 5 ≤ way ∧ way ≤ 7) (hf : fitR l = 0) (hu : Txts w w.heap.size a l) :
    Calls Tryz.prog 49 #[.slice a l.length c, .int .i64 way] w (PackPost (sayT way l, 0) w) := by
  have hP := sayPlain_any a c l w hf hu
  have HB := Lib.hid (sayBook_any a c l w hf hu)
  have hF := fwrite_any a c l w hu
  rw [show fwR l = (F.fb [] l, 0) by unfold fwR; rw [if_neg (by rw [hf]; simp)]] at hF
  have HP := Lib.hid hP
  have HF := Lib.hid hF
  clear hP hF hu
  have h4 : way = 5 ∨ way = 6 ∨ way = 7 := by omega
  rcases h4 with rfl | rfl | rfl
  · have HR := Lib.hid (show sayT 5 l = plainB l from rfl)
    generalize sayT 5 l = R at *
    clear HB HF
    go_enter Tryz.func49, Tryz.ntmps49
    go_wp2_with fail
    refine (HP.out).mono ?_
    rintro e w1 ⟨rfl, hb1⟩
    go_wp2_with fail
    go_ret2
    rw [HR.out]; exact ⟨rfl, hb1⟩
  · have HR := Lib.hid (show sayT 6 l = bookB l from rfl)
    generalize sayT 6 l = R at *
    clear HP HF
    go_enter Tryz.func49, Tryz.ntmps49
    go_wp2_with fail
    refine (HB.out).mono ?_
    rintro e w1 ⟨rfl, hb1⟩
    go_wp2_with fail
    go_ret2
    rw [HR.out]; exact ⟨rfl, hb1⟩
  · have HR := Lib.hid (show sayT 7 l = F.fb [] l from rfl)
    generalize sayT 7 l = R at *
    clear HP HB
    go_enter Tryz.func49, Tryz.ntmps49
    go_wp2_with fail
    refine (HF.out).mono ?_
    rintro e w1 ⟨rfl, hb1⟩
    go_wp2_with fail
    go_ret2
    rw [HR.out]; exact ⟨rfl, hb1⟩

def txtR (way : Int) (l : List (List UInt8)) : List UInt8 × Nat := if way < 5 ∨ 7 < way then ([], 7) else if fitR l ≠ 0 then ([], 2) else (txB way.toNat l, 0)
theorem fitR_two {l : List (List UInt8)} (h : fitR l ≠ 0) : fitR l = 2 := by
  unfold fitR at *
  by_cases e : 64 < l.length ∨ l.findIdx long < l.length
  · rw [if_pos e]
  · rw [if_neg e] at h; exact absurd rfl h
set_option maxHeartbeats 1000000 in
set_option maxRecDepth 100000 in
theorem ktexts_any (way : Int) (a : Option Addr) (c : Nat) (l : List (List UInt8)) (w : World) (hu : Txts w w.heap.size a l) :
    Calls Tryz.prog 17 #[.slice a l.length c, .int .i64 way] w (PackPost (txtR way l) w) := by
  by_cases h0 : way < 5 ∨ 7 < way
  · have HR := Lib.hid (show txtR way l = ([], 7) from if_pos h0)
    have hg : decide (way < 5) = true ∨ (decide (way < 5) = false ∧ decide (7 < way) = true) := by simp; omega
    clear h0
    rcases hg with g1 | ⟨g1, g2⟩
    all_goals
      go_enter Tryz.func17, Tryz.ntmps17
      go_wp2_with fail
      go_ret2
      rw [HR.out]; exact ⟨rfl, Below.refl _ _⟩
  have g1 : decide (way < 5) = false := by simp; omega
  have g2 : decide (7 < way) = false := by simp; omega
  have hfit := tfit_any w a c l _ hu
  by_cases h1 : fitR l ≠ 0
  · have HR := Lib.hid (show txtR way l = ([], 2) by unfold txtR; rw [if_neg h0, if_pos h1])
    rw [fitR_two h1] at hfit
    have HF := Lib.hid hfit
    clear hfit h0 hu h1
    go_enter Tryz.func17, Tryz.ntmps17
    go_wp2_with fail
    refine (HF.out).mono ?_
    rintro e w1 ⟨rfl, rfl⟩
    go_wp2_with fail
    go_ret2
    rw [HR.out]; exact ⟨rfl, Below.refl _ _⟩
  obtain ⟨m, rfl⟩ : ∃ m : Nat, way = m := ⟨way.toNat, by omega⟩
  have hm : 5 ≤ m ∧ m ≤ 7 := by omega
  have hf : fitR l = 0 := Decidable.not_not.1 h1
  rw [hf] at hfit
  have HF := Lib.hid hfit
  have hlen := sayT_len m l hm hf
  have HS := Lib.hid (sayTexts_any m a c l w hm hf hu)
  have HH := Lib.hid (fun W => headed_any m (sayT m l) 0 W (by omega) hlen)
  have HR := Lib.hid (show txtR m l = (UInt8.ofNat m :: sayT m l, 0) by unfold txtR; rw [if_neg h0, if_neg h1, Int.toNat_natCast, txB_say m l hm])
  have HE := Lib.hid (show headR m (sayT m l, 0) = (UInt8.ofNat m :: sayT m l, 0) from if_neg (by simp))
  clear hfit h0 hu hlen h1 hf
  generalize sayT m l = t at *
  go_enter Tryz.func17, Tryz.ntmps17
  go_wp2_with fail
  refine (HF.out).mono ?_
  rintro e w1 ⟨rfl, rfl⟩
  go_wp2_with fail
  refine (HS.out).mono ?_
  rintro e w1 ⟨rfl, hb1⟩
  go_wp2_with fail
  refine (HH.out _).mono ?_
  rintro e w2 ⟨rfl, hb2⟩
  go_wp2_with fail
  go_ret2
  rw [HR.out, HE.out]
  exact ⟨rfl, below_then hb1 hb2⟩
end Go.Proofs.YtmiboibadccceaaGreat
