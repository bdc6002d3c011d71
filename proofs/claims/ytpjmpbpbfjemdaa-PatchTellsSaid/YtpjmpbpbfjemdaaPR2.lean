/- The walks of hypostyleref.CostOf, PatchBytes. -/
import Derived.Test.YtpjmpbpbfjemdaaPR1
import Derived.Test.YtpjmpbpbfjemdaaBitsX6
import Derived.Test.YtpjmpbpbfjemdaaOne
import Derived.Test.YtpjmpbpbfjemdaaStep
namespace Go.Proofs.Ytpjmpbpbfjemdaa
open Go.RowKit
set_option linter.unusedVariables false

set_option maxHeartbeats 1000000 in
set_option maxRecDepth 100000 in
theorem rcost_some (b off c : Nat) (l : List Nat) (k : Nat) (w : World) (hk : k ≤ 64) (hl : l.length ≤ 64) (hx : ∀ x ∈ l, x < 18446744073709551616) (hb : b < w.heap.size)
    (hc : ∀ i, i < l.length → w.cell? ⟨b, off + i, none⟩ = some (.int .u64 ((l.getD i 0 : Nat) : Int))) :
    Calls Try.prog 31 #[.slice (some ⟨b, off, none⟩) l.length c, .int .i64 k] w fun e w' => e = .returned (.int .i64 (P.cost k (P.more l) : Nat)) ∧ Below w.heap.size w w' := by
  have hu : Nums w w.heap.size (some ⟨b, off, none⟩) l := fun _ => ⟨b, off, rfl, hb, hc⟩
  have HC := Lib.hid hc
  have HX := Lib.hid (fun j (h : j < l.length) => hx _ (getD_mem l j h))
  have HLE := Lib.hid (fun j (h : j < l.length) => P.base_le l _ (getD_mem l j h))
  have HBS := Lib.hid (fun W (h : Below w.heap.size w W) => rbase_any (some ⟨b, off, none⟩) c l W w.heap.size hl (hu.below h))
  have hmul := Nat.mul_le_mul hl hk
  have hmI : ((l.length : Int) * (k : Int)) = ((l.length * k : Nat) : Int) := by simp
  have hml := P.more_length l
  have HCE := Lib.hid (show P.cost k (P.more l) = B.sz (l.length * k) + P.extra k (P.more l) by rw [P.cost_eq, hml])
  have HTK := Lib.hid (fun j (h : j < l.length) => show P.extra k ((P.more l).take (j + 1)) = P.extra k ((P.more l).take j) + (if P.out k (l.getD j 0 - P.base l) then 1 + V.sz (l.getD j 0 - P.base l) else 0) by
    rw [P.extra_take k (P.more l) j (by omega), P.more_get l j h])
  have HEL := Lib.hid (fun j => show P.extra k ((P.more l).take j) ≤ 640 by have := P.extra_le k ((P.more l).take j); rw [List.length_take] at this; omega)
  have HEND := Lib.hid (show (P.more l).take l.length = P.more l by rw [← hml]; exact List.take_length)
  have hbl := P.base_lt l hx
  generalize P.more l = mo at *
  generalize P.base l = bs at *
  generalize hM : l.length * k = M at *
  have hszM : B.sz M = M / 8 + (if 0 < M % 8 then 1 else 0) := by unfold B.sz; split <;> omega
  have hwm : IntKind.i64.wrap ((l.length : Int) * (k : Int)) = (M : Int) := by rw [hmI, IntKind.wrap_i64]; omega
  have hq1 : ((M : Int) / 8) = ((M / 8 : Nat) : Int) := by omega
  have hq2 : ((M : Int) % 8) = ((M % 8 : Nat) : Int) := by omega
  have hq3 : M / 8 ≤ 512 := by omega
  have hq4 : B.sz M ≤ 513 := by rw [hszM]; split <;> omega
  generalize hz : B.sz M = z at *
  have HSZ := Lib.hid hszM
  clear hszM hz hc hx hM hml hu
  have main : ∀ (W : World) (HW : Below w.heap.size w W) (R : Act → World → Prop), True := fun _ _ _ => trivial
  clear main
  by_cases hr : 0 < M % 8
  all_goals
    first
      | have g1 : decide (0 < M % 8) = true := decide_eq_true hr
      | have g1 : decide (0 < M % 8) = false := decide_eq_false hr
    have hz2 := HSZ.out
    first | rw [if_pos hr] at hz2 | rw [if_neg hr] at hz2
    generalize M / 8 = d at *
    generalize M % 8 = rr at *
    first
      | have hzI : ((d : Int) + 1) = (z : Int) := by omega
      | have hzI : (d : Int) = (z : Int) := by omega
    have HZI := Lib.hid hzI
    clear hz2 hzI hr
    go_enter Try.func31, Try.ntmps31
    go_wp2_with fail
    clear hq1 hq2 hwm hmI g1
    go_loopw [5, 6, 7] (fun n i _ wr => ∃ j : Nat, j ≤ l.length ∧ i = .int .i64 j ∧ n = .int .i64 ((z + P.extra k (mo.take j) : Nat) : Int) ∧ Below w.heap.size w wr) (fun _ i _ _ => l.length - (intOf i).toNat)
    case atStart => exact ⟨0, by omega, rfl, by first | rw [HZI.out]; simp [P.extra] | simp [P.extra], Below.refl _ _⟩
    case round =>
      obtain ⟨j, hj, rfl, rfl, hbw⟩ := hrel
      by_cases hlt : j < l.length
      · have cj := (hbw.cell (p := ⟨b, off + j, none⟩) hb).trans (HC.out j hlt)
        have hxj := HX.out j hlt
        have hle := HLE.out j hlt
        have HT := Lib.hid (HTK.out j hlt)
        have hel := HEL.out j
        generalize l.getD j 0 = x at *
        generalize P.extra k (mo.take j) = ex at *
        have hws : IntKind.u64.wrap ((x : Int) - (bs : Int)) = ((x - bs : Nat) : Int) := by rw [IntKind.wrap_u64]; omega
        have hws2 : (x : Int) - (bs : Int) = ((x - bs : Nat) : Int) := by omega
        obtain ⟨y, hy⟩ : ∃ y, y = x - bs := ⟨_, rfl⟩
        rw [← hy] at hws hws2 HT
        have hyb : y < 18446744073709551616 := by omega
        have hfit := fun W => fits_any y k W hyb hk
        have hs9 := V.sz_le y
        have hel2 := V.enc_length y
        have hjI : (j : Int) < (l.length : Int) := by omega
        clear hy
        by_cases ho : B.bl y ≤ k
        · rw [decide_eq_true ho] at hfit
          have HF := Lib.hid hfit
          have hout : P.out k y = false := by unfold P.out; simp [ho]
          rw [hout, if_neg (by simp)] at HT
          clear hfit ho hout
          go_wp2_with fail
          go_quiet ((go_at_call 36; exact Calls.quiet_same (HBS.out _ (below_drewN hbw _))))
          go_wp2_with fail
          refine (HF.out _).mono ?_
          rintro e w2 ⟨rfl, rfl⟩
          go_wp2_with fail
          exact ⟨⟨j + 1, by omega, by go_num, by rw [HT.out, Nat.add_zero]; simp, below_drewN hbw _⟩, by simp [intOf]; omega⟩
        · rw [decide_eq_false ho] at hfit
          have HF := Lib.hid hfit
          have hout : P.out k y = true := by unfold P.out; simp; omega
          rw [hout, if_pos rfl] at HT
          obtain ⟨t, ht⟩ : ∃ t, t = str (V.enc y) := ⟨_, rfl⟩
          have hts : t.size = V.sz y := by rw [ht, str_size, hel2]
          have HTS := Lib.hid hts
          have hts9 : t.size ≤ 9 := by omega
          have HVB := Lib.hid (fun W => show Calls Try.prog 35 #[.int .u64 (y : Int)] W (fun e w' => e = .returned (.string t) ∧ Below W.heap.size W w') by rw [ht]; exact vbytes_any y W hyb)
          clear hfit ho hout ht hel2 hts
          go_wp2_with fail
          go_quiet ((go_at_call 36; exact Calls.quiet_same (HBS.out _ (below_drewN hbw _))))
          go_wp2_with fail
          refine (HF.out _).mono ?_
          rintro e w2 ⟨rfl, rfl⟩
          go_wp2_with fail
          refine (HVB.out _).mono ?_
          rintro e w3 ⟨rfl, hb3⟩
          go_wp2_with fail
          exact ⟨⟨j + 1, by omega, by go_num, by rw [HT.out, ← HTS.out]; congr 1; omega, below_then (below_drewN hbw _) hb3⟩, by simp [intOf]; omega⟩
      · obtain rfl : j = l.length := by omega
        rw [HEND.out]
        go_wp2_with fail
        go_ret
        exact ⟨by rw [HCE.out]; rfl, hbw⟩

set_option maxHeartbeats 400000 in
theorem rcost_nil (a : Option Addr) (c k : Nat) (w : World) (hk : k ≤ 64) :
    Calls Try.prog 31 #[.slice a 0 c, .int .i64 k] w fun e w' => e = .returned (.int .i64 0) ∧ Below w.heap.size w w' := by
  go_enter Try.func31, Try.ntmps31
  go_wp2_with fail
  refine wp_loop_rounds 1 ?_
  rw [rounds_succ]
  go_wp2_with fail
  go_ret
  exact ⟨rfl, Below.refl _ _⟩
theorem rcost_any (a : Option Addr) (c : Nat) (l : List Nat) (k : Nat) (w : World) (hk : k ≤ 64) (hl : l.length ≤ 64) (hx : ∀ x ∈ l, x < 18446744073709551616) (hu : Nums w w.heap.size a l) :
    Calls Try.prog 31 #[.slice a l.length c, .int .i64 k] w fun e w' => e = .returned (.int .i64 (P.cost k (P.more l) : Nat)) ∧ Below w.heap.size w w' := by
  by_cases h : l = []
  · subst h
    have e : P.cost k (P.more []) = 0 := by rw [P.cost_eq]; simp [P.more, P.extra, B.sz]
    rw [e]; exact rcost_nil a c k w hk
  · obtain ⟨b, off, rfl, hb, hc⟩ := hu h
    exact rcost_some b off c l k w hk hl hx hb hc

theorem plc_count (p : Nat → Bool) (l : List Nat) (j : Nat) (h : j < l.length) : (P.plc p 0 (l.take (j + 1))).length = (P.plc p 0 (l.take j)).length + (if p (l.getD j 0) then 1 else 0) := by
  rw [P.plc_take p l j h, List.length_append]
  split <;> rfl

set_option maxHeartbeats 2000000 in
set_option maxRecDepth 100000 in
theorem rpatch_any (a : Option Addr) (c : Nat) (l : List Nat) (w : World) (hl : l.length ≤ 64) (hx : ∀ x ∈ l, x < 18446744073709551616) (hu : Nums w w.heap.size a l) :
    Calls Try.prog 30 #[.slice a l.length c] w (TextPost (P.bytes l) w) := by
  have HU := Lib.hid hu
  have HX := Lib.hid (fun j (h : j < l.length) => hx _ (getD_mem l j h))
  have HLE := Lib.hid (fun j (h : j < l.length) => P.base_le l _ (getD_mem l j h))
  have hml := P.more_length l
  have hmx := P.more_lt l hx
  have hbl := P.base_lt l hx
  have HBS := Lib.hid (fun W (h : Below w.heap.size w W) => rbase_any a c l W w.heap.size hl (hu.below h))
  obtain ⟨f, hf⟩ : ∃ f, f = fun w => P.cost w (P.more l) := ⟨_, rfl⟩
  have HCO := Lib.hid (fun W (k : Nat) (hk : k ≤ 64) (h : Nums W W.heap.size a l) => show Calls Try.prog 31 #[.slice a l.length c, .int .i64 k] W (fun e w' => e = .returned (.int .i64 (f k : Nat)) ∧ Below W.heap.size W w') by rw [hf]; exact rcost_any a c l k W hk hl hx h)
  have HBEST := Lib.hid (show P.dnB f 64 64 = P.best (P.more l) by rw [hf]; exact P.dnB_up _ 64)
  have hwd := P.best_le (P.more l)
  have HMG := Lib.hid (fun j (h : j < l.length) => P.more_get l j h)
  have HIT := Lib.hid (fun j (h : j < (P.more l).length) => P.ins_take (P.best (P.more l)) (P.more l) j h)
  have HTT := Lib.hid (fun j (h : j < (P.more l).length) => P.tail_take (P.best (P.more l)) (P.more l) j h)
  have HCT := Lib.hid (fun j (h : j < (P.more l).length) => plc_count (P.out (P.best (P.more l))) (P.more l) j h)
  have HTL := Lib.hid (fun j => show (P.tail (P.best (P.more l)) 0 ((P.more l).take j)).length ≤ 640 by
    rw [P.tail_length]; have := P.extra_le (P.best (P.more l)) ((P.more l).take j); rw [List.length_take] at this; omega)
  have HCL := Lib.hid (fun j => show (P.plc (P.out (P.best (P.more l))) 0 ((P.more l).take j)).length ≤ 64 by
    have := P.plc_len (P.out (P.best (P.more l))) 0 ((P.more l).take j); rw [List.length_take] at this; omega)
  have HIL := Lib.hid (fun j (h : j ≤ l.length) => show (P.ins (P.best (P.more l)) ((P.more l).take j)).length = j by rw [P.ins_length, List.length_take]; omega)
  have HEND := Lib.hid (show (P.more l).take l.length = P.more l by rw [← hml]; exact List.take_length)
  have hil := P.ins_length (P.best (P.more l)) (P.more l)
  have hfit := P.ins_fit (P.best (P.more l)) (P.more l)
  have HPK := Lib.hid (fun A c' W (h : Nums W W.heap.size A (P.ins (P.best (P.more l)) (P.more l))) => show Calls Try.prog 56 #[.slice A l.length c', .int .i64 (P.best (P.more l) : Nat)] W (TextPost (H.pkd (P.best (P.more l)) (P.ins (P.best (P.more l)) (P.more l))) W) by
    have := packedL_any A c' (P.ins (P.best (P.more l)) (P.more l)) (P.best (P.more l)) W (by omega) hwd hfit (P.ins_lt _ _ hmx) h
    have e : H.pkd (P.best (P.more l)) (P.ins (P.best (P.more l)) (P.more l)) = B.le (B.sz (l.length * P.best (P.more l))) (B.pk (P.best (P.more l)) (P.ins (P.best (P.more l)) (P.more l))) := by unfold H.pkd; rw [hil, hml]
    rw [e]; rw [hil, hml] at this; exact this)
  have hkl : (H.pkd (P.best (P.more l)) (P.ins (P.best (P.more l)) (P.more l))).length ≤ 512 := by
    rw [H.pkd_length, hil]
    have := Nat.mul_le_mul (show (P.more l).length ≤ 64 by omega) hwd
    unfold B.sz; omega
  have HRES := Lib.hid (show P.bytes l = V.enc (P.base l) ++ [UInt8.ofNat (P.best (P.more l))] ++ [UInt8.ofNat (P.plc (P.out (P.best (P.more l))) 0 (P.more l)).length] ++ H.pkd (P.best (P.more l)) (P.ins (P.best (P.more l)) (P.more l)) ++ P.tail (P.best (P.more l)) 0 (P.more l) by
    unfold P.bytes P.bytesM; simp)
  generalize P.more l = mo at *
  generalize P.base l = bs at *
  generalize P.best mo = wd at *
  clear hu hx hmx hil hfit hf
  have HML := Lib.hid hml
  clear hml
  go_enter Try.func30, Try.ntmps30
  go_wp2_with fail
  go_loopw [3, 4] (fun u k wr => ∃ (p v : Nat) (kk : Int), k = .int .i64 kk ∧ u = .int .i64 p ∧ p ≤ 64 ∧ v ≤ 64 ∧ Hid (kk = (v : Int) - 1) ∧ -1 ≤ kk ∧ kk ≤ 63 ∧ Hid (P.dnB f p v = wd) ∧ Below w.heap.size w wr) (fun _ k _ => (intOf k + 1).toNat)
  case atStart => exact ⟨64, 64, 63, rfl, rfl, by omega, by omega, Lib.hid (by omega), by omega, by omega, HBEST, Below.refl _ _⟩
  case round =>
    obtain ⟨p, v, kk, rfl, rfl, hp, hv, HK, hk1, hk2, HD, hbw⟩ := hrel
    by_cases hge : 0 ≤ kk
    · obtain ⟨q, rfl⟩ : ∃ q : Nat, kk = q := ⟨kk.toNat, by omega⟩
      have hvq : v = q + 1 := by have := HK.out; omega
      subst hvq
      have hd := HD.out
      have hqI : (0 : Int) ≤ (q : Int) := hge
      have HC1 := Lib.hid (HCO.out wr q (by omega) (HU.out.next hbw))
      have HC2 := Lib.hid (fun W (h : Below wr.heap.size wr W) => HCO.out W p hp (HU.out.next (below_then hbw h)))
      unfold P.dnB at hd
      by_cases hle : f q ≤ f p
      · rw [if_pos hle] at hd
        have HD2 := Lib.hid hd
        have g1 : decide (f q ≤ f p) = true := decide_eq_true hle
        clear hd hle
        go_wp2_with fail
        refine (HC1.out).mono ?_
        rintro e w2 ⟨rfl, hb2⟩
        go_wp2_with fail
        refine (HC2.out _ hb2).mono ?_
        rintro e w3 ⟨rfl, hb3⟩
        go_wp2_with fail
        exact ⟨⟨q, q, (q : Int) - 1, by go_num, rfl, by omega, by omega, Lib.hid rfl, by omega, by omega, HD2, below_then (below_then hbw hb2) hb3⟩, by simp [intOf]⟩
      · rw [if_neg hle] at hd
        have HD2 := Lib.hid hd
        have g1 : decide (f q ≤ f p) = false := decide_eq_false hle
        clear hd hle
        go_wp2_with fail
        refine (HC1.out).mono ?_
        rintro e w2 ⟨rfl, hb2⟩
        go_wp2_with fail
        refine (HC2.out _ hb2).mono ?_
        rintro e w3 ⟨rfl, hb3⟩
        go_wp2_with fail
        exact ⟨⟨p, q, (q : Int) - 1, by go_num, rfl, by omega, by omega, Lib.hid rfl, by omega, by omega, HD2, below_then (below_then hbw hb2) hb3⟩, by simp [intOf]⟩
    · have hv0 : v = 0 := by have := HK.out; omega
      subst hv0
      have hpw : p = wd := HD.out
      subst hpw
      have g0 : decide (0 ≤ kk) = false := decide_eq_false hge
      clear HD HBEST
      go_wp2_with fail
      go_loopw [5, 6, 7, 8, 9] (fun v t m i _ wr => ∃ j : Nat, j ≤ l.length ∧ i = .int .i64 j ∧ NumRow w.heap.size (P.ins p (mo.take j)) v wr ∧ t = .string (str (P.tail p 0 (mo.take j))) ∧ m = .int .i64 ((P.plc (P.out p) 0 (mo.take j)).length : Nat) ∧ Below w.heap.size w wr) (fun _ _ _ i _ _ => l.length - (intOf i).toNat)
      case atStart => exact ⟨0, by omega, rfl, ⟨rfl, Or.inl ⟨rfl, rfl⟩⟩, rfl, rfl, hbw⟩
      case round =>
        obtain ⟨j, hj, rfl, hrow, rfl, rfl, hbw2⟩ := hrel
        by_cases hlt : j < l.length
        · obtain ⟨b, off, rfl, hb, hcc⟩ := HU.out (fun e => by rw [e] at hlt; simp at hlt)
          have cj := (hbw2.cell (p := ⟨b, off + j, none⟩) hb).trans (hcc j hlt)
          have hlt2 : j < mo.length := by rw [HML.out]; exact hlt
          have hxj := HX.out j hlt
          have hle := HLE.out j hlt
          have hmg := HMG.out j hlt
          have HIJ := Lib.hid (HIT.out j hlt2)
          have HTJ := Lib.hid (HTT.out j hlt2)
          have HCJ := Lib.hid (HCT.out j hlt2)
          rw [hmg] at HIJ HTJ HCJ
          have htl := HTL.out j
          have hcl := HCL.out j
          have hil := HIL.out j hj
          generalize l.getD j 0 = x at *
          generalize P.ins p (mo.take j) = im at *
          generalize P.tail p 0 (mo.take j) = tt at *
          generalize (P.plc (P.out p) 0 (mo.take j)).length = ct at *
          have hws : IntKind.u64.wrap ((x : Int) - (bs : Int)) = ((x - bs : Nat) : Int) := by rw [IntKind.wrap_u64]; omega
          have hws2 : (x : Int) - (bs : Int) = ((x - bs : Nat) : Int) := by omega
          obtain ⟨y, hy⟩ : ∃ y, y = x - bs := ⟨_, rfl⟩
          rw [← hy] at hws hws2 HIJ HTJ HCJ
          have hyb : y < 18446744073709551616 := by omega
          have hfy := fun W => fits_any y p W hyb hwd
          have hown : wr.ownsRow w.heap.size 23 1 u5 im.length (nv im) := hrow
          have HOWN := Lib.hid hown
          have hlb : (im.length + 1) * 8 ≤ 140737488355328 := by omega
          have hsz2 := hbw2.size
          have hjI : (j : Int) < (l.length : Int) := by omega
          clear hy hrow hown hil hcc hmg
          by_cases ho : B.bl y ≤ p
          · rw [decide_eq_true ho] at hfy
            have HF := Lib.hid hfy
            have hout : P.out p y = false := by unfold P.out; simp [ho]
            rw [hout, if_neg (by simp)] at HIJ HTJ HCJ
            clear hfy ho hout
            go_wp2_with fail
            go_quiet ((go_at_call 36; exact Calls.quiet_same (HBS.out _ (below_drewN hbw2 _))))
            go_wp2_with fail
            refine (HF.out _).mono ?_
            rintro e w2 ⟨rfl, rfl⟩
            have hb6 := below_drewN hbw2 nq
            have hown6 : (wr.drewN nq).ownsRow w.heap.size 23 1 u5 im.length (nv im) := HOWN.out
            have HOWN6 := Lib.hid hown6
            obtain ⟨w6, hw6⟩ : ∃ w6, w6 = wr.drewN nq := ⟨_, rfl⟩
            rw [← hw6] at hb6 HOWN6 ⊢
            have hb5 : w.heap.size ≤ (w6.alloc (.cells #[.int .u64 (y : Int)] 23)).heap.size := by have := hb6.size; simp; omega
            clear hown6 hw6
            go_wp2_with (at_builtin; refine wpList_append_one rfl (.tmp 38) (.tmp 40) rfl w.heap.size _ im.length _ rfl (HOWN6.out.alloc _) w6.heap.size y rfl (World.cell?_alloc_new _ _ _ _) hlb hb5 ?_)
            intro v' w5 hown5 hgrow5
            have hbw5 : Below w.heap.size w w5 := (hb6.alloc hb6.size _).grown hgrow5 (by have := hb6.size; simp; omega) (fun k hk => (HOWN6.out.lt k hk).1)
            go_wp2_with fail
            refine ⟨⟨j + 1, by omega, by go_num, ?_, by rw [HTJ.out, List.append_nil], by rw [HCJ.out, Nat.add_zero], hbw5⟩, by simp [intOf]; omega⟩
            rw [HIJ.out]; unfold NumRow; rw [List.length_append]; simpa [nv] using hown5
          · rw [decide_eq_false ho] at hfy
            have HF := Lib.hid hfy
            have hout : P.out p y = true := by unfold P.out; simp; omega
            rw [hout, if_pos rfl] at HIJ HTJ HCJ
            obtain ⟨t1, ht1⟩ : ∃ t1, t1 = str [UInt8.ofNat j] := ⟨_, rfl⟩
            obtain ⟨t2, ht2⟩ : ∃ t2, t2 = str (V.enc y) := ⟨_, rfl⟩
            obtain ⟨t0, ht0⟩ : ∃ t0, t0 = str tt := ⟨_, rfl⟩
            have hs1 : t1.size = 1 := by rw [ht1]; rfl
            have hs2 : t2.size ≤ 9 := by rw [ht2, str_size, V.enc_length]; exact V.sz_le _
            have hs0 : t0.size ≤ 640 := by rw [ht0, str_size]; exact htl
            have hcat1 : ¬ 9223372036854775807 < t1.size + t2.size := by omega
            have hcat2 : ¬ 9223372036854775807 < t0.size + (t1.size + t2.size) := by omega
            have HSUM := Lib.hid (show t0 ++ (t1 ++ t2) = str (tt ++ (UInt8.ofNat j :: V.enc y)) by rw [ht0, ht1, ht2, str_append, str_append]; rfl)
            have HOB := Lib.hid (fun W => show Calls Try.prog 46 #[.int .i64 (j : Int)] W (fun e w' => e = .returned (.string t1) ∧ Below W.heap.size W w') by rw [ht1]; exact one_any j W (by omega))
            have HVB := Lib.hid (fun W => show Calls Try.prog 35 #[.int .u64 (y : Int)] W (fun e w' => e = .returned (.string t2) ∧ Below W.heap.size W w') by rw [ht2]; exact vbytes_any y W hyb)
            rw [← ht0]
            clear hfy ho hout ht1 ht2 ht0 hs1
            go_wp2_with fail
            go_quiet ((go_at_call 36; exact Calls.quiet_same (HBS.out _ (below_drewN hbw2 _))))
            go_wp2_with fail
            refine (HF.out _).mono ?_
            rintro e w2 ⟨rfl, rfl⟩
            have hb6 := below_drewN hbw2 nq
            have hown6 : (wr.drewN nq).ownsRow w.heap.size 23 1 u5 im.length (nv im) := HOWN.out
            have HOWN6 := Lib.hid hown6
            obtain ⟨w6, hw6⟩ : ∃ w6, w6 = wr.drewN nq := ⟨_, rfl⟩
            rw [← hw6] at hb6 HOWN6 ⊢
            have hb5 : w.heap.size ≤ (w6.alloc (.cells #[.int .u64 ((0 : Nat) : Int)] 23)).heap.size := by have := hb6.size; simp; omega
            clear hown6 hw6
            go_wp2_with (at_builtin; refine wpList_append_one rfl (.tmp 42) (.tmp 43) rfl w.heap.size _ im.length _ rfl (HOWN6.out.alloc _) w6.heap.size 0 rfl (World.cell?_alloc_new _ _ _ _) hlb hb5 ?_)
            intro v' w5 hown5 hgrow5
            have hbw5 : Below w.heap.size w w5 := (hb6.alloc hb6.size _).grown hgrow5 (by have := hb6.size; simp; omega) (fun k hk => (HOWN6.out.lt k hk).1)
            have hrow5 : NumRow w.heap.size (im ++ [0]) v' w5 := by unfold NumRow; rw [List.length_append]; simpa [nv] using hown5
            have HROW5 := Lib.hid hrow5
            clear hrow5 hown5 hgrow5
            go_wp2_with fail
            refine (HOB.out _).mono ?_
            rintro e w7 ⟨rfl, hb7⟩
            go_wp2_with fail
            refine (HVB.out _).mono ?_
            rintro e w8 ⟨rfl, hb8⟩
            have hrow8 := Lib.hid ((HROW5.out.below hb7).below hb8)
            go_wp2_with fail
            exact ⟨⟨j + 1, by omega, by go_num, by rw [HIJ.out]; exact hrow8.out, by rw [HTJ.out, ← HSUM.out], by rw [HCJ.out]; simp, below_then (below_then hbw5 hb7) hb8⟩, by simp [intOf]; omega⟩
        · obtain rfl : j = l.length := by omega
          rw [HEND.out] at hrow ⊢
          obtain ⟨a5, c5, rfl, hn5⟩ := numRow_nums hrow
          have hil := HIL.out l.length (Nat.le_refl _)
          rw [HEND.out] at hil
          have htl := HTL.out l.length
          have hcl := HCL.out l.length
          rw [HEND.out] at htl hcl
          have HN5 := Lib.hid hn5
          rw [hil]
          generalize P.ins p mo = im at *
          generalize H.pkd p im = kd at *
          generalize P.tail p 0 mo = tt at *
          generalize (P.plc (P.out p) 0 mo).length = ct at *
          obtain ⟨t1, ht1⟩ : ∃ t1, t1 = str (V.enc bs) := ⟨_, rfl⟩
          obtain ⟨t2, ht2⟩ : ∃ t2, t2 = str [UInt8.ofNat p] := ⟨_, rfl⟩
          obtain ⟨t3, ht3⟩ : ∃ t3, t3 = str [UInt8.ofNat ct] := ⟨_, rfl⟩
          obtain ⟨t4, ht4⟩ : ∃ t4, t4 = str kd := ⟨_, rfl⟩
          obtain ⟨t5, ht5⟩ : ∃ t5, t5 = str tt := ⟨_, rfl⟩
          have hs1 : t1.size ≤ 9 := by rw [ht1, str_size, V.enc_length]; exact V.sz_le _
          have hs2 : t2.size ≤ 1 := by rw [ht2]; exact Nat.le_refl _
          have hs3 : t3.size ≤ 1 := by rw [ht3]; exact Nat.le_refl _
          have hs4 : t4.size ≤ 512 := by rw [ht4, str_size]; exact hkl
          have hs5 : t5.size ≤ 640 := by rw [ht5, str_size]; exact htl
          have hcat1 : ¬ 9223372036854775807 < t1.size + t2.size := by omega
          have hcat2 : ¬ 9223372036854775807 < t1.size + t2.size + t3.size := by omega
          have hcat3 : ¬ 9223372036854775807 < t1.size + t2.size + t3.size + t4.size := by omega
          have hcat4 : ¬ 9223372036854775807 < t1.size + t2.size + t3.size + t4.size + t5.size := by omega
          have HSUM := Lib.hid (show t1 ++ t2 ++ t3 ++ t4 ++ t5 = str (V.enc bs ++ [UInt8.ofNat p] ++ [UInt8.ofNat ct] ++ kd ++ tt) by rw [ht1, ht2, ht3, ht4, ht5, str_append, str_append, str_append, str_append])
          have HB0 := Lib.hid (HBS.out wr hbw2)
          have HVB := Lib.hid (fun W => show Calls Try.prog 35 #[.int .u64 (bs : Int)] W (fun e w' => e = .returned (.string t1) ∧ Below W.heap.size W w') by rw [ht1]; exact vbytes_any bs W hbl)
          have HO1 := Lib.hid (fun W => show Calls Try.prog 46 #[.int .i64 (p : Int)] W (fun e w' => e = .returned (.string t2) ∧ Below W.heap.size W w') by rw [ht2]; exact one_any p W (by omega))
          have HO2 := Lib.hid (fun W => show Calls Try.prog 46 #[.int .i64 (ct : Int)] W (fun e w' => e = .returned (.string t3) ∧ Below W.heap.size W w') by rw [ht3]; exact one_any ct W (by omega))
          have HPK2 := Lib.hid (fun A c' W (h : Nums W W.heap.size A im) => show Calls Try.prog 56 #[.slice A l.length c', .int .i64 (p : Int)] W (fun e w' => e = .returned (.string t4) ∧ Below W.heap.size W w') by rw [ht4]; exact HPK.out A c' W h)
          rw [← ht5]
          clear hrow hn5 ht1 ht2 ht3 ht4 ht5 hil
          go_wp2_with fail
          refine (HB0.out).mono ?_
          rintro e w2 ⟨rfl, rfl⟩
          go_wp2_with fail
          refine (HVB.out _).mono ?_
          rintro e w3 ⟨rfl, hb3⟩
          go_wp2_with fail
          refine (HO1.out _).mono ?_
          rintro e w4 ⟨rfl, hb4⟩
          go_wp2_with fail
          refine (HO2.out _).mono ?_
          rintro e w5 ⟨rfl, hb5⟩
          go_wp2_with fail
          refine (HPK2.out _ _ _ (HN5.out.next (below_then (below_then hb3 hb4) hb5))).mono ?_
          rintro e w6 ⟨rfl, hb6⟩
          go_wp2_with fail
          go_ret
          exact ⟨by rw [HRES.out, ← HSUM.out]; rfl, below_then hbw2 (below_then (below_then (below_then hb3 hb4) hb5) hb6)⟩
end Go.Proofs.Ytpjmpbpbfjemdaa
