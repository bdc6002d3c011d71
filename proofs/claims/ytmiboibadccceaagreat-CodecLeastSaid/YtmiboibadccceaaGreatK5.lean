/- PR2, BitsU8, PR3, TStr, TBase, TPlain, TMany, TW1, TW2, TW3, TPut, ShelfSort, TW4. -/
import Derived.Sort.KeysCollected
import Derived.Sort.Walk0
import Derived.Laws.OwnMore
import Derived.WalkKit
import Derived.Lib.SlicesCompact
import Derived.RangeFuncBox
import Derived.Shelf.Sort.Plain
import Derived.Ground.Names2Prog
import Derived.Shelf.Slices.Clone
import Derived.Shelf.Slices.CompactS
import Derived.Shelf.Slices.In.SortNone
import Derived.Test.YtmiboibadccceaaGreatProg
import Derived.Sort.OwnSorted
import Derived.Sort.Grow
import Derived.Lib.OwnBridge
import Derived.Test.YtmiboibadccceaaGreatK4
/- The walks of hypostyleref.CostOf, PatchBytes. -/
namespace Go.Proofs.YtmiboibadccceaaGreat
open Go.RowKit
set_option linter.unusedVariables false

set_option maxHeartbeats 1000000 in
set_option maxRecDepth 100000 in
theorem rcost_some (b off c : Nat) (l : List Nat) (k : Nat) (w : World) (hk : k ≤ 64) (hl : l.length ≤ 64) (hx : ∀ x ∈ l, x < 18446744073709551616) (hb : b < w.heap.size)
    (hc : ∀ i, i < l.length → w.cell? ⟨b, off + i, none⟩ = some (.int .u64 ((l.getD i 0 : Nat) : Int))) :
    Calls Tryz.prog 90 #[.slice (some ⟨b, off, none⟩) l.length c, .int .i64 k] w fun e w' => e = .returned (.int .i64 (P.cost k (P.more l) : Nat)) ∧ Below w.heap.size w w' := by
  have hu : Nums w w.heap.size (some ⟨b, off, none⟩) l := fun _ => ⟨b, off, rfl, hb, hc⟩
  have HC := Lib.hid hc
  have HX := Lib.hid (fun j (h : j < l.length) => hx _ (getD_mem l j h))
  have HLE := Lib.hid (fun j (h : j < l.length) => P.base_le l _ (getD_mem l j h))
  have HBS := Lib.hid (fun W (h : Below w.heap.size w W) => rbase_any (some ⟨b, off, none⟩) c l W w.heap.size hl (hu.below h))
  have hmul := Nat.mul_le_mul hl hk
  have hmI : ((l.length : Int) * (k : Int)) = ((l.length * k : Nat) : Int) := by simp
  have hml := P.more_length l
  have HCE := Lib.hid (show P.cost k (P.more l) = B.sz (l.length * k) + P.extra k (P.more l) by rw [P.cost_eq, hml])
  have HTK := Lib.hid (fun j (h : j < l.length) => show P.extra k ((P.more l).take (j + 1)) = P.extra k ((P.more l).take j) + (if P.out k (l.getD j 0 - P.base l) then 1 + V.sz (l.getD j 0 - P.base l) else 0) by
    rw [P.extra_take k (P.more l) j (by omega), P.more_get l j h])
  have HEL := Lib.hid (fun j => show P.extra k ((P.more l).take j) ≤ 640 by have := P.extra_le k ((P.more l).take j); rw [List.length_take] at this; omega)
  have HEND := Lib.hid (show (P.more l).take l.length = P.more l by rw [← hml]; exact List.take_length)
  have hbl := P.base_lt l hx
  generalize P.more l = mo at *
  generalize P.base l = bs at *
  generalize hM : l.length * k = M at *
  have hszM : B.sz M = M / 8 + (if 0 < M % 8 then 1 else 0) := by unfold B.sz; split <;> omega
  have hwm : IntKind.i64.wrap ((l.length : Int) * (k : Int)) = (M : Int) := by rw [hmI, IntKind.wrap_i64]; omega
  have hq1 : ((M : Int) / 8) = ((M / 8 : Nat) : Int) := by omega
  have hq2 : ((M : Int) % 8) = ((M % 8 : Nat) : Int) := by omega
  have hq3 : M / 8 ≤ 512 := by omega
  have hq4 : B.sz M ≤ 513 := by rw [hszM]; split <;> omega
  generalize hz : B.sz M = z at *
  have HSZ := Lib.hid hszM
  clear hszM hz hc hx hM hml hu
  have main : ∀ (W : World) (HW : Below w.heap.size w W) (R : Act → World → Prop), True := fun _ _ _ => trivial
  clear main
  by_cases hr : 0 < M % 8
  all_goals
    first
      | have g1 : decide (0 < M % 8) = true := decide_eq_true hr
      | have g1 : decide (0 < M % 8) = false := decide_eq_false hr
    have hz2 := HSZ.out
    first | rw [if_pos hr] at hz2 | rw [if_neg hr] at hz2
    generalize M / 8 = d at *
    generalize M % 8 = rr at *
    first
      | have hzI : ((d : Int) + 1) = (z : Int) := by omega
      | have hzI : (d : Int) = (z : Int) := by omega
    have HZI := Lib.hid hzI
    clear hz2 hzI hr
    go_enter Tryz.func90, Tryz.ntmps90
    go_wp2_with fail
    clear hq1 hq2 hwm hmI g1
    go_loopw [5, 6, 7] (fun n i _ wr => ∃ j : Nat, j ≤ l.length ∧ i = .int .i64 j ∧ n = .int .i64 ((z + P.extra k (mo.take j) : Nat) : Int) ∧ Below w.heap.size w wr) (fun _ i _ _ => l.length - (intOf i).toNat)
    case atStart => exact ⟨0, by omega, rfl, by first | rw [HZI.out]; simp [P.extra] | simp [P.extra], Below.refl _ _⟩
    case round =>
      obtain ⟨j, hj, rfl, rfl, hbw⟩ := hrel
      by_cases hlt : j < l.length
      · have cj := (hbw.cell (p := ⟨b, off + j, none⟩) hb).trans (HC.out j hlt)
        have hxj := HX.out j hlt
        have hle := HLE.out j hlt
        have HT := Lib.hid (HTK.out j hlt)
        have hel := HEL.out j
        generalize l.getD j 0 = x at *
        generalize P.extra k (mo.take j) = ex at *
        have hws : IntKind.u64.wrap ((x : Int) - (bs : Int)) = ((x - bs : Nat) : Int) := by rw [IntKind.wrap_u64]; omega
        have hws2 : (x : Int) - (bs : Int) = ((x - bs : Nat) : Int) := by omega
        obtain ⟨y, hy⟩ : ∃ y, y = x - bs := ⟨_, rfl⟩
        rw [← hy] at hws hws2 HT
        have hyb : y < 18446744073709551616 := by omega
        have hfit := fun W => fits_any y k W hyb hk
        have hs9 := V.sz_le y
        have hel2 := V.enc_length y
        have hjI : (j : Int) < (l.length : Int) := by omega
        clear hy
        by_cases ho : B.bl y ≤ k
        · rw [decide_eq_true ho] at hfit
          have HF := Lib.hid hfit
          have hout : P.out k y = false := by unfold P.out; simp [ho]
          rw [hout, if_neg (by simp)] at HT
          clear hfit ho hout
          go_wp2_with fail
          go_quiet ((go_at_call 91; exact Calls.quiet_same (HBS.out _ (below_drewN hbw _))))
          go_wp2_with fail
          refine (HF.out _).mono ?_
          rintro e w2 ⟨rfl, rfl⟩
          go_wp2_with fail
          exact ⟨⟨j + 1, by omega, by go_num, by rw [HT.out, Nat.add_zero]; simp, below_drewN hbw _⟩, by simp [intOf]; omega⟩
        · rw [decide_eq_false ho] at hfit
          have HF := Lib.hid hfit
          have hout : P.out k y = true := by unfold P.out; simp; omega
          rw [hout, if_pos rfl] at HT
          obtain ⟨t, ht⟩ : ∃ t, t = str (V.enc y) := ⟨_, rfl⟩
          have hts : t.size = V.sz y := by rw [ht, str_size, hel2]
          have HTS := Lib.hid hts
          have hts9 : t.size ≤ 9 := by omega
          have HVB := Lib.hid (fun W => show Calls Tryz.prog 51 #[.int .u64 (y : Int)] W (fun e w' => e = .returned (.string t) ∧ Below W.heap.size W w') by rw [ht]; exact vbytes_any y W hyb)
          clear hfit ho hout ht hel2 hts
          go_wp2_with fail
          go_quiet ((go_at_call 91; exact Calls.quiet_same (HBS.out _ (below_drewN hbw _))))
          go_wp2_with fail
          refine (HF.out _).mono ?_
          rintro e w2 ⟨rfl, rfl⟩
          go_wp2_with fail
          refine (HVB.out _).mono ?_
          rintro e w3 ⟨rfl, hb3⟩
          go_wp2_with fail
          exact ⟨⟨j + 1, by omega, by go_num, by rw [HT.out, ← HTS.out]; congr 1; omega, below_then (below_drewN hbw _) hb3⟩, by simp [intOf]; omega⟩
      · obtain rfl : j = l.length := by omega
        rw [HEND.out]
        go_wp2_with fail
        go_ret
        exact ⟨by rw [HCE.out]; rfl, hbw⟩

set_option maxHeartbeats 400000 in
theorem rcost_nil (a : Option Addr) (c k : Nat) (w : World) (hk : k ≤ 64) :
    Calls Tryz.prog 90 #[.slice a 0 c, .int .i64 k] w fun e w' => e = .returned (.int .i64 0) ∧ Below w.heap.size w w' := by
  go_enter Tryz.func90, Tryz.ntmps90
  go_wp2_with fail
  refine wp_loop_rounds 1 ?_
  rw [rounds_succ]
  go_wp2_with fail
  go_ret
  exact ⟨rfl, Below.refl _ _⟩
theorem rcost_any (a : Option Addr) (c : Nat) (l : List Nat) (k : Nat) (w : World) (hk : k ≤ 64) (hl : l.length ≤ 64) (hx : ∀ x ∈ l, x < 18446744073709551616) (hu : Nums w w.heap.size a l) :
    Calls Tryz.prog 90 #[.slice a l.length c, .int .i64 k] w fun e w' => e = .returned (.int .i64 (P.cost k (P.more l) : Nat)) ∧ Below w.heap.size w w' := by
  by_cases h : l = []
  · subst h
    have e : P.cost k (P.more []) = 0 := by rw [P.cost_eq]; simp [P.more, P.extra, B.sz]
    rw [e]; exact rcost_nil a c k w hk
  · obtain ⟨b, off, rfl, hb, hc⟩ := hu h
    exact rcost_some b off c l k w hk hl hx hb hc

theorem plc_count (p : Nat → Bool) (l : List Nat) (j : Nat) (h : j < l.length) : (P.plc p 0 (l.take (j + 1))).length = (P.plc p 0 (l.take j)).length + (if p (l.getD j 0) then 1 else 0) := by
  rw [P.plc_take p l j h, List.length_append]
  split <;> rfl

set_option maxHeartbeats 2000000 in
set_option maxRecDepth 100000 in
theorem rpatch_any (a : Option Addr) (c : Nat) (l : List Nat) (w : World) (hl : l.length ≤ 64) (hx : ∀ x ∈ l, x < 18446744073709551616) (hu : Nums w w.heap.size a l) :
    Calls Tryz.prog 44 #[.slice a l.length c] w (TextPost (P.bytes l) w) := by
  have HU := Lib.hid hu
  have HX := Lib.hid (fun j (h : j < l.length) => hx _ (getD_mem l j h))
  have HLE := Lib.hid (fun j (h : j < l.length) => P.base_le l _ (getD_mem l j h))
  have hml := P.more_length l
  have hmx := P.more_lt l hx
  have hbl := P.base_lt l hx
  have HBS := Lib.hid (fun W (h : Below w.heap.size w W) => rbase_any a c l W w.heap.size hl (hu.below h))
  obtain ⟨f, hf⟩ : ∃ f, f = fun w => P.cost w (P.more l) := ⟨_, rfl⟩
  have HCO := Lib.hid (fun W (k : Nat) (hk : k ≤ 64) (h : Nums W W.heap.size a l) => show Calls Tryz.prog 90 #[.slice a l.length c, .int .i64 k] W (fun e w' => e = .returned (.int .i64 (f k : Nat)) ∧ Below W.heap.size W w') by rw [hf]; exact rcost_any a c l k W hk hl hx h)
  have HBEST := Lib.hid (show P.dnB f 64 64 = P.best (P.more l) by rw [hf]; exact P.dnB_up _ 64)
  have hwd := P.best_le (P.more l)
  have HMG := Lib.hid (fun j (h : j < l.length) => P.more_get l j h)
  have HIT := Lib.hid (fun j (h : j < (P.more l).length) => P.ins_take (P.best (P.more l)) (P.more l) j h)
  have HTT := Lib.hid (fun j (h : j < (P.more l).length) => P.tail_take (P.best (P.more l)) (P.more l) j h)
  have HCT := Lib.hid (fun j (h : j < (P.more l).length) => plc_count (P.out (P.best (P.more l))) (P.more l) j h)
  have HTL := Lib.hid (fun j => show (P.tail (P.best (P.more l)) 0 ((P.more l).take j)).length ≤ 640 by
    rw [P.tail_length]; have := P.extra_le (P.best (P.more l)) ((P.more l).take j); rw [List.length_take] at this; omega)
  have HCL := Lib.hid (fun j => show (P.plc (P.out (P.best (P.more l))) 0 ((P.more l).take j)).length ≤ 64 by
    have := P.plc_len (P.out (P.best (P.more l))) 0 ((P.more l).take j); rw [List.length_take] at this; omega)
  have HIL := Lib.hid (fun j (h : j ≤ l.length) => show (P.ins (P.best (P.more l)) ((P.more l).take j)).length = j by rw [P.ins_length, List.length_take]; omega)
  have HEND := Lib.hid (show (P.more l).take l.length = P.more l by rw [← hml]; exact List.take_length)
  have hil := P.ins_length (P.best (P.more l)) (P.more l)
  have hfit := P.ins_fit (P.best (P.more l)) (P.more l)
  have HPK := Lib.hid (fun A c' W (h : Nums W W.heap.size A (P.ins (P.best (P.more l)) (P.more l))) => show Calls Tryz.prog 41 #[.slice A l.length c', .int .i64 (P.best (P.more l) : Nat)] W (TextPost (H.pkd (P.best (P.more l)) (P.ins (P.best (P.more l)) (P.more l))) W) by
    have := packedL_any A c' (P.ins (P.best (P.more l)) (P.more l)) (P.best (P.more l)) W (by omega) hwd hfit (P.ins_lt _ _ hmx) h
    have e : H.pkd (P.best (P.more l)) (P.ins (P.best (P.more l)) (P.more l)) = B.le (B.sz (l.length * P.best (P.more l))) (B.pk (P.best (P.more l)) (P.ins (P.best (P.more l)) (P.more l))) := by unfold H.pkd; rw [hil, hml]
    rw [e]; rw [hil, hml] at this; exact this)
  have hkl : (H.pkd (P.best (P.more l)) (P.ins (P.best (P.more l)) (P.more l))).length ≤ 512 := by
    rw [H.pkd_length, hil]
    have := Nat.mul_le_mul (show (P.more l).length ≤ 64 by omega) hwd
    unfold B.sz; omega
  have HRES := Lib.hid (show P.bytes l = V.enc (P.base l) ++ [UInt8.ofNat (P.best (P.more l))] ++ [UInt8.ofNat (P.plc (P.out (P.best (P.more l))) 0 (P.more l)).length] ++ H.pkd (P.best (P.more l)) (P.ins (P.best (P.more l)) (P.more l)) ++ P.tail (P.best (P.more l)) 0 (P.more l) by
    unfold P.bytes P.bytesM; simp)
  generalize P.more l = mo at *
  generalize P.base l = bs at *
  generalize P.best mo = wd at *
  clear hu hx hmx hil hfit hf
  have HML := Lib.hid hml
  clear hml
  go_enter Tryz.func44, Tryz.ntmps44
  go_wp2_with fail
  go_loopw [3, 4] (fun u k wr => ∃ (p v : Nat) (kk : Int), k = .int .i64 kk ∧ u = .int .i64 p ∧ p ≤ 64 ∧ v ≤ 64 ∧ Hid (kk = (v : Int) - 1) ∧ -1 ≤ kk ∧ kk ≤ 63 ∧ Hid (P.dnB f p v = wd) ∧ Below w.heap.size w wr) (fun _ k _ => (intOf k + 1).toNat)
  case atStart => exact ⟨64, 64, 63, rfl, rfl, by omega, by omega, Lib.hid (by omega), by omega, by omega, HBEST, Below.refl _ _⟩
  case round =>
    obtain ⟨p, v, kk, rfl, rfl, hp, hv, HK, hk1, hk2, HD, hbw⟩ := hrel
    by_cases hge : 0 ≤ kk
    · obtain ⟨q, rfl⟩ : ∃ q : Nat, kk = q := ⟨kk.toNat, by omega⟩
      have hvq : v = q + 1 := by have := HK.out; omega
      subst hvq
      have hd := HD.out
      have hqI : (0 : Int) ≤ (q : Int) := hge
      have HC1 := Lib.hid (HCO.out wr q (by omega) (HU.out.next hbw))
      have HC2 := Lib.hid (fun W (h : Below wr.heap.size wr W) => HCO.out W p hp (HU.out.next (below_then hbw h)))
      unfold P.dnB at hd
      by_cases hle : f q ≤ f p
      · rw [if_pos hle] at hd
        have HD2 := Lib.hid hd
        have g1 : decide (f q ≤ f p) = true := decide_eq_true hle
        clear hd hle
        go_wp2_with fail
        refine (HC1.out).mono ?_
        rintro e w2 ⟨rfl, hb2⟩
        go_wp2_with fail
        refine (HC2.out _ hb2).mono ?_
        rintro e w3 ⟨rfl, hb3⟩
        go_wp2_with fail
        exact ⟨⟨q, q, (q : Int) - 1, by go_num, rfl, by omega, by omega, Lib.hid rfl, by omega, by omega, HD2, below_then (below_then hbw hb2) hb3⟩, by simp [intOf]⟩
      · rw [if_neg hle] at hd
        have HD2 := Lib.hid hd
        have g1 : decide (f q ≤ f p) = false := decide_eq_false hle
        clear hd hle
        go_wp2_with fail
        refine (HC1.out).mono ?_
        rintro e w2 ⟨rfl, hb2⟩
        go_wp2_with fail
        refine (HC2.out _ hb2).mono ?_
        rintro e w3 ⟨rfl, hb3⟩
        go_wp2_with fail
        exact ⟨⟨p, q, (q : Int) - 1, by go_num, rfl, by omega, by omega, Lib.hid rfl, by omega, by omega, HD2, below_then (below_then hbw hb2) hb3⟩, by simp [intOf]⟩
    · have hv0 : v = 0 := by have := HK.out; omega
      subst hv0
      have hpw : p = wd := HD.out
      subst hpw
      have g0 : decide (0 ≤ kk) = false := decide_eq_false hge
      clear HD HBEST
      go_wp2_with fail
      go_loopw [5, 6, 7, 8, 9] (fun v t m i _ wr => ∃ j : Nat, j ≤ l.length ∧ i = .int .i64 j ∧ NumRow w.heap.size (P.ins p (mo.take j)) v wr ∧ t = .string (str (P.tail p 0 (mo.take j))) ∧ m = .int .i64 ((P.plc (P.out p) 0 (mo.take j)).length : Nat) ∧ Below w.heap.size w wr) (fun _ _ _ i _ _ => l.length - (intOf i).toNat)
      case atStart => exact ⟨0, by omega, rfl, ⟨rfl, Or.inl ⟨rfl, rfl⟩⟩, rfl, rfl, hbw⟩
      case round =>
        obtain ⟨j, hj, rfl, hrow, rfl, rfl, hbw2⟩ := hrel
        by_cases hlt : j < l.length
        · obtain ⟨b, off, rfl, hb, hcc⟩ := HU.out (fun e => by rw [e] at hlt; simp at hlt)
          have cj := (hbw2.cell (p := ⟨b, off + j, none⟩) hb).trans (hcc j hlt)
          have hlt2 : j < mo.length := by rw [HML.out]; exact hlt
          have hxj := HX.out j hlt
          have hle := HLE.out j hlt
          have hmg := HMG.out j hlt
          have HIJ := Lib.hid (HIT.out j hlt2)
          have HTJ := Lib.hid (HTT.out j hlt2)
          have HCJ := Lib.hid (HCT.out j hlt2)
          rw [hmg] at HIJ HTJ HCJ
          have htl := HTL.out j
          have hcl := HCL.out j
          have hil := HIL.out j hj
          generalize l.getD j 0 = x at *
          generalize P.ins p (mo.take j) = im at *
          generalize P.tail p 0 (mo.take j) = tt at *
          generalize (P.plc (P.out p) 0 (mo.take j)).length = ct at *
          have hws : IntKind.u64.wrap ((x : Int) - (bs : Int)) = ((x - bs : Nat) : Int) := by rw [IntKind.wrap_u64]; omega
          have hws2 : (x : Int) - (bs : Int) = ((x - bs : Nat) : Int) := by omega
          obtain ⟨y, hy⟩ : ∃ y, y = x - bs := ⟨_, rfl⟩
          rw [← hy] at hws hws2 HIJ HTJ HCJ
          have hyb : y < 18446744073709551616 := by omega
          have hfy := fun W => fits_any y p W hyb hwd
          have hown : wr.ownsRow w.heap.size 46 1 u5 im.length (nv im) := hrow
          have HOWN := Lib.hid hown
          have hlb : (im.length + 1) * 8 ≤ 140737488355328 := by omega
          have hsz2 := hbw2.size
          have hjI : (j : Int) < (l.length : Int) := by omega
          clear hy hrow hown hil hcc hmg
          by_cases ho : B.bl y ≤ p
          · rw [decide_eq_true ho] at hfy
            have HF := Lib.hid hfy
            have hout : P.out p y = false := by unfold P.out; simp [ho]
            rw [hout, if_neg (by simp)] at HIJ HTJ HCJ
            clear hfy ho hout
            go_wp2_with fail
            go_quiet ((go_at_call 91; exact Calls.quiet_same (HBS.out _ (below_drewN hbw2 _))))
            go_wp2_with fail
            refine (HF.out _).mono ?_
            rintro e w2 ⟨rfl, rfl⟩
            have hb6 := below_drewN hbw2 nq
            have hown6 : (wr.drewN nq).ownsRow w.heap.size 46 1 u5 im.length (nv im) := HOWN.out
            have HOWN6 := Lib.hid hown6
            obtain ⟨w6, hw6⟩ : ∃ w6, w6 = wr.drewN nq := ⟨_, rfl⟩
            rw [← hw6] at hb6 HOWN6 ⊢
            have hb5 : w.heap.size ≤ (w6.alloc (.cells #[.int .u64 (y : Int)] 46)).heap.size := by have := hb6.size; simp; omega
            clear hown6 hw6
            go_wp2_with (at_builtin; refine wpList_append_one rfl (.tmp 38) (.tmp 40) rfl w.heap.size _ im.length _ rfl (HOWN6.out.alloc _) w6.heap.size y rfl (World.cell?_alloc_new _ _ _ _) hlb hb5 ?_)
            intro v' w5 hown5 hgrow5
            have hbw5 : Below w.heap.size w w5 := (hb6.alloc hb6.size _).grown hgrow5 (by have := hb6.size; simp; omega) (fun k hk => (HOWN6.out.lt k hk).1)
            go_wp2_with fail
            refine ⟨⟨j + 1, by omega, by go_num, ?_, by rw [HTJ.out, List.append_nil], by rw [HCJ.out, Nat.add_zero], hbw5⟩, by simp [intOf]; omega⟩
            rw [HIJ.out]; unfold NumRow; rw [List.length_append]; simpa [nv] using hown5
          · rw [decide_eq_false ho] at hfy
            have HF := Lib.hid hfy
            have hout : P.out p y = true := by unfold P.out; simp; omega
            rw [hout, if_pos rfl] at HIJ HTJ HCJ
            obtain ⟨t1, ht1⟩ : ∃ t1, t1 = str [UInt8.ofNat j] := ⟨_, rfl⟩
            obtain ⟨t2, ht2⟩ : ∃ t2, t2 = str (V.enc y) := ⟨_, rfl⟩
            obtain ⟨t0, ht0⟩ : ∃ t0, t0 = str tt := ⟨_, rfl⟩
            have hs1 : t1.size = 1 := by rw [ht1]; rfl
            have hs2 : t2.size ≤ 9 := by rw [ht2, str_size, V.enc_length]; exact V.sz_le _
            have hs0 : t0.size ≤ 640 := by rw [ht0, str_size]; exact htl
            have hcat1 : ¬ 9223372036854775807 < t1.size + t2.size := by omega
            have hcat2 : ¬ 9223372036854775807 < t0.size + (t1.size + t2.size) := by omega
            have HSUM := Lib.hid (show t0 ++ (t1 ++ t2) = str (tt ++ (UInt8.ofNat j :: V.enc y)) by rw [ht0, ht1, ht2, str_append, str_append]; rfl)
            have HOB := Lib.hid (fun W => show Calls Tryz.prog 40 #[.int .i64 (j : Int)] W (fun e w' => e = .returned (.string t1) ∧ Below W.heap.size W w') by rw [ht1]; exact one_any j W (by omega))
            have HVB := Lib.hid (fun W => show Calls Tryz.prog 51 #[.int .u64 (y : Int)] W (fun e w' => e = .returned (.string t2) ∧ Below W.heap.size W w') by rw [ht2]; exact vbytes_any y W hyb)
            rw [← ht0]
            clear hfy ho hout ht1 ht2 ht0 hs1
            go_wp2_with fail
            go_quiet ((go_at_call 91; exact Calls.quiet_same (HBS.out _ (below_drewN hbw2 _))))
            go_wp2_with fail
            refine (HF.out _).mono ?_
            rintro e w2 ⟨rfl, rfl⟩
            have hb6 := below_drewN hbw2 nq
            have hown6 : (wr.drewN nq).ownsRow w.heap.size 46 1 u5 im.length (nv im) := HOWN.out
            have HOWN6 := Lib.hid hown6
            obtain ⟨w6, hw6⟩ : ∃ w6, w6 = wr.drewN nq := ⟨_, rfl⟩
            rw [← hw6] at hb6 HOWN6 ⊢
            have hb5 : w.heap.size ≤ (w6.alloc (.cells #[.int .u64 ((0 : Nat) : Int)] 46)).heap.size := by have := hb6.size; simp; omega
            clear hown6 hw6
            go_wp2_with (at_builtin; refine wpList_append_one rfl (.tmp 42) (.tmp 43) rfl w.heap.size _ im.length _ rfl (HOWN6.out.alloc _) w6.heap.size 0 rfl (World.cell?_alloc_new _ _ _ _) hlb hb5 ?_)
            intro v' w5 hown5 hgrow5
            have hbw5 : Below w.heap.size w w5 := (hb6.alloc hb6.size _).grown hgrow5 (by have := hb6.size; simp; omega) (fun k hk => (HOWN6.out.lt k hk).1)
            have hrow5 : NumRow w.heap.size (im ++ [0]) v' w5 := by unfold NumRow; rw [List.length_append]; simpa [nv] using hown5
            have HROW5 := Lib.hid hrow5
            clear hrow5 hown5 hgrow5
            go_wp2_with fail
            refine (HOB.out _).mono ?_
            rintro e w7 ⟨rfl, hb7⟩
            go_wp2_with fail
            refine (HVB.out _).mono ?_
            rintro e w8 ⟨rfl, hb8⟩
            have hrow8 := Lib.hid ((HROW5.out.below hb7).below hb8)
            go_wp2_with fail
            exact ⟨⟨j + 1, by omega, by go_num, by rw [HIJ.out]; exact hrow8.out, by rw [HTJ.out, ← HSUM.out], by rw [HCJ.out]; simp, below_then (below_then hbw5 hb7) hb8⟩, by simp [intOf]; omega⟩
        · obtain rfl : j = l.length := by omega
          rw [HEND.out] at hrow ⊢
          obtain ⟨a5, c5, rfl, hn5⟩ := numRow_nums hrow
          have hil := HIL.out l.length (Nat.le_refl _)
          rw [HEND.out] at hil
          have htl := HTL.out l.length
          have hcl := HCL.out l.length
          rw [HEND.out] at htl hcl
          have HN5 := Lib.hid hn5
          rw [hil]
          generalize P.ins p mo = im at *
          generalize H.pkd p im = kd at *
          generalize P.tail p 0 mo = tt at *
          generalize (P.plc (P.out p) 0 mo).length = ct at *
          obtain ⟨t1, ht1⟩ : ∃ t1, t1 = str (V.enc bs) := ⟨_, rfl⟩
          obtain ⟨t2, ht2⟩ : ∃ t2, t2 = str [UInt8.ofNat p] := ⟨_, rfl⟩
          obtain ⟨t3, ht3⟩ : ∃ t3, t3 = str [UInt8.ofNat ct] := ⟨_, rfl⟩
          obtain ⟨t4, ht4⟩ : ∃ t4, t4 = str kd := ⟨_, rfl⟩
          obtain ⟨t5, ht5⟩ : ∃ t5, t5 = str tt := ⟨_, rfl⟩
          have hs1 : t1.size ≤ 9 := by rw [ht1, str_size, V.enc_length]; exact V.sz_le _
          have hs2 : t2.size ≤ 1 := by rw [ht2]; exact Nat.le_refl _
          have hs3 : t3.size ≤ 1 := by rw [ht3]; exact Nat.le_refl _
          have hs4 : t4.size ≤ 512 := by rw [ht4, str_size]; exact hkl
          have hs5 : t5.size ≤ 640 := by rw [ht5, str_size]; exact htl
          have hcat1 : ¬ 9223372036854775807 < t1.size + t2.size := by omega
          have hcat2 : ¬ 9223372036854775807 < t1.size + t2.size + t3.size := by omega
          have hcat3 : ¬ 9223372036854775807 < t1.size + t2.size + t3.size + t4.size := by omega
          have hcat4 : ¬ 9223372036854775807 < t1.size + t2.size + t3.size + t4.size + t5.size := by omega
          have HSUM := Lib.hid (show t1 ++ t2 ++ t3 ++ t4 ++ t5 = str (V.enc bs ++ [UInt8.ofNat p] ++ [UInt8.ofNat ct] ++ kd ++ tt) by rw [ht1, ht2, ht3, ht4, ht5, str_append, str_append, str_append, str_append])
          have HB0 := Lib.hid (HBS.out wr hbw2)
          have HVB := Lib.hid (fun W => show Calls Tryz.prog 51 #[.int .u64 (bs : Int)] W (fun e w' => e = .returned (.string t1) ∧ Below W.heap.size W w') by rw [ht1]; exact vbytes_any bs W hbl)
          have HO1 := Lib.hid (fun W => show Calls Tryz.prog 40 #[.int .i64 (p : Int)] W (fun e w' => e = .returned (.string t2) ∧ Below W.heap.size W w') by rw [ht2]; exact one_any p W (by omega))
          have HO2 := Lib.hid (fun W => show Calls Tryz.prog 40 #[.int .i64 (ct : Int)] W (fun e w' => e = .returned (.string t3) ∧ Below W.heap.size W w') by rw [ht3]; exact one_any ct W (by omega))
          have HPK2 := Lib.hid (fun A c' W (h : Nums W W.heap.size A im) => show Calls Tryz.prog 41 #[.slice A l.length c', .int .i64 (p : Int)] W (fun e w' => e = .returned (.string t4) ∧ Below W.heap.size W w') by rw [ht4]; exact HPK.out A c' W h)
          rw [← ht5]
          clear hrow hn5 ht1 ht2 ht3 ht4 ht5 hil
          go_wp2_with fail
          refine (HB0.out).mono ?_
          rintro e w2 ⟨rfl, rfl⟩
          go_wp2_with fail
          refine (HVB.out _).mono ?_
          rintro e w3 ⟨rfl, hb3⟩
          go_wp2_with fail
          refine (HO1.out _).mono ?_
          rintro e w4 ⟨rfl, hb4⟩
          go_wp2_with fail
          refine (HO2.out _).mono ?_
          rintro e w5 ⟨rfl, hb5⟩
          go_wp2_with fail
          refine (HPK2.out _ _ _ (HN5.out.next (below_then (below_then hb3 hb4) hb5))).mono ?_
          rintro e w6 ⟨rfl, hb6⟩
          go_wp2_with fail
          go_ret
          exact ⟨by rw [HRES.out, ← HSUM.out]; rfl, below_then hbw2 (below_then (below_then (below_then hb3 hb4) hb5) hb6)⟩
end Go.Proofs.YtmiboibadccceaaGreat
/- The walk of hypostyleref.UnpackOf once more: its answer is the call's own. -/
namespace Go.Proofs.YtmiboibadccceaaGreat
open Go.RowKit
set_option linter.unusedVariables false

/-- a list that was answered is the call's own -/
def AllPostO (r : List Nat × Nat) (w : World) (e : Ending) (w' : World) : Prop :=
  ∃ a c, e = .returned (.tuple #[.slice a r.1.length c, .int .i64 r.2]) ∧ NumRow w.heap.size r.1 (.slice a r.1.length c) w' ∧ Below w.heap.size w w'

set_option maxHeartbeats 400000 in
set_option maxRecDepth 100000 in
theorem unpackOo_range (s : ByteArray) (many wide : Int) (w : World) (h : wide < 0 ∨ 64 < wide ∨ many < 0) :
    Calls Tryz.prog 60 #[.string s, .int .i64 many, .int .i64 wide] w (AllPostO ([], 3) w) := by
  by_cases h0 : wide < 0
  · have g1 : decide (wide < 0) = true := by simp; omega
    go_enter Tryz.func60, Tryz.ntmps60
    go_wp2_with fail
    go_ret2
    exact ⟨none, 0, rfl, nilRow _ _, Below.refl _ _⟩
  · have g1 : decide (wide < 0) = false := by simp; omega
    by_cases h1 : 64 < wide
    · have g2 : decide (64 < wide) = true := by simp; omega
      go_enter Tryz.func60, Tryz.ntmps60
      go_wp2_with fail
      go_ret2
      exact ⟨none, 0, rfl, nilRow _ _, Below.refl _ _⟩
    · have g2 : decide (64 < wide) = false := by simp; omega
      have g3 : decide (many < 0) = true := by simp; omega
      go_enter Tryz.func60, Tryz.ntmps60
      go_wp2_with fail
      go_ret2
      exact ⟨none, 0, rfl, nilRow _ _, Below.refl _ _⟩

set_option maxHeartbeats 400000 in
set_option maxRecDepth 100000 in
theorem unpackOo_many (s : ByteArray) (many : Int) (wide : Nat) (w : World) (h : wide ≤ 64) (hm : 64 < many) :
    Calls Tryz.prog 60 #[.string s, .int .i64 many, .int .i64 wide] w (AllPostO ([], 2) w) := by
  have g1 : decide ((wide : Int) < 0) = false := by simp
  have g2 : decide ((64 : Int) < (wide : Int)) = false := by simp; omega
  have g3 : decide (many < 0) = false := by simp; omega
  go_enter Tryz.func60, Tryz.ntmps60
  go_wp2_with fail
  go_ret2
  exact ⟨none, 0, rfl, nilRow _ _, Below.refl _ _⟩

set_option maxHeartbeats 1000000 in
set_option maxRecDepth 100000 in
theorem unpackOo_form (s : ByteArray) (many wide : Nat) (w : World) (h : wide ≤ 64) (hm : many ≤ 64) (hs : s.size ≤ maxLen) (hz : s.size ≠ B.sz (many * wide)) :
    Calls Tryz.prog 60 #[.string s, .int .i64 many, .int .i64 wide] w (AllPostO ([], 1) w) := by
  unfold maxLen at hs
  have g1 : decide ((wide : Int) < 0) = false := by simp
  have g2 : decide ((64 : Int) < (wide : Int)) = false := by simp; omega
  have g3 : decide ((many : Int) < 0) = false := by simp
  have hmul : many * wide ≤ 64 * 64 := Nat.mul_le_mul hm h
  have hmulI : ((many : Int) * (wide : Int)) = ((many * wide : Nat) : Int) := by simp
  generalize many * wide = M at *
  unfold B.sz at hz
  by_cases hM : M % 8 = 0
  · have g4 : ((s.size : Int) != (M : Int) / 8) = true := by rw [bne_iff_ne]; omega
    have g5 : ((M : Int) % 8 == 0) = true := by rw [beq_iff_eq]; omega
    clear hz
    go_enter Tryz.func60, Tryz.ntmps60
    go_wp2_with fail
    go_ret2
    exact ⟨none, 0, rfl, nilRow _ _, Below.refl _ _⟩
  · have g5 : ((M : Int) % 8 == 0) = false := by rw [beq_eq_false_iff_ne]; omega
    have g6 : ((s.size : Int) != (M : Int) / 8 + 1) = true := by rw [bne_iff_ne]; omega
    have g7 : ((M : Int) % 8 != 0) = true := by rw [bne_iff_ne]; omega
    by_cases hq : s.size = M / 8
    · have g4 : ((s.size : Int) != (M : Int) / 8) = false := by rw [bne_eq_false_iff_eq]; omega
      clear hz hq
      go_enter Tryz.func60, Tryz.ntmps60
      go_wp2_with fail
      go_ret2
      exact ⟨none, 0, rfl, nilRow _ _, Below.refl _ _⟩
    · have g4 : ((s.size : Int) != (M : Int) / 8) = true := by rw [bne_iff_ne]; omega
      clear hz hq
      go_enter Tryz.func60, Tryz.ntmps60
      go_wp2_with fail
      go_ret2
      exact ⟨none, 0, rfl, nilRow _ _, Below.refl _ _⟩

set_option maxHeartbeats 4000000 in
set_option maxRecDepth 100000 in
theorem unpackOo_in (s : ByteArray) (many wide : Nat) (w : World) (h : wide ≤ 64) (hm : many ≤ 64) (hz : s.size = B.sz (many * wide)) :
    Calls Tryz.prog 60 #[.string s, .int .i64 many, .int .i64 wide] w (AllPostO (if B.leN s.data.toList / 2 ^ (many * wide) = 0 then (B.dg wide many (B.leN s.data.toList), 0) else ([], 1)) w) := by
  obtain ⟨i0, hi, hz0, hz1, hz2⟩ := info_parts info_u64
  have g1 : decide ((wide : Int) < 0) = false := by simp
  have g2 : decide ((64 : Int) < (wide : Int)) = false := by simp; omega
  have g3 : decide ((many : Int) < 0) = false := by simp
  have hmul : many * wide ≤ 64 * 64 := Nat.mul_le_mul hm h
  have hmulI : ((many : Int) * (wide : Int)) = ((many * wide : Nat) : Int) := by simp
  have htb := fun p w hp hp2 => textBit_any s p w hp hp2
  have htop := top_bits s.data.toList (many * wide)
  rw [len_data] at htop
  generalize B.leN s.data.toList = T at *
  have HTB := Lib.hid htb
  have hbnd : many * wide ≤ 8 * s.size ∧ 8 * s.size < many * wide + 8 ∧ s.size ≤ 512 := by rw [hz]; unfold B.sz; omega
  have HTOP := Lib.hid (htop hbnd.1)
  have hmw := fun k (hk : k < many) => (show k * wide + wide ≤ many * wide by
    rw [show k * wide + wide = (k + 1) * wide by rw [Nat.add_mul, Nat.one_mul]]; exact Nat.mul_le_mul_right _ (by omega))
  have HMW := Lib.hid hmw
  generalize hM : many * wide = M at *
  have hres : ∃ r : List Nat × Nat, r = (if T / 2 ^ M = 0 then (B.dg wide many T, 0) else ([], 1)) := ⟨_, rfl⟩
  obtain ⟨r, hr⟩ := hres
  rw [← hr]
  have HR := Lib.hid hr
  clear htb htop hr hM hmw
  have hform : (((s.size : Int) != (M : Int) / 8) = false ∧ ((M : Int) % 8 == 0) = true ∧ ((s.size : Int) != (M : Int) / 8 + 1) = true ∧ ((M : Int) % 8 != 0) = false) ∨
      (((s.size : Int) != (M : Int) / 8) = true ∧ ((M : Int) % 8 == 0) = false ∧ ((s.size : Int) != (M : Int) / 8 + 1) = false ∧ ((M : Int) % 8 != 0) = true) := by
    unfold B.sz at hz
    simp only [bne_eq_false_iff_eq, bne_iff_ne, beq_iff_eq, beq_eq_false_iff_ne]
    omega
  clear hz
  rcases hform with ⟨g4, g5, g6, g7⟩ | ⟨g4, g5, g6, g7⟩
  all_goals
    go_enter Tryz.func60, Tryz.ntmps60
    go_wp2_with fail
    go_loop [6, 7, 9] (fun _ _ i => ∃ p : Nat, M ≤ p ∧ p ≤ 8 * s.size ∧ i = .int .i64 p ∧ Hid (T / 2 ^ M % 2 ^ (p - M) = 0)) (fun _ _ i => 8 * s.size - (intOf i).toNat)
    case atStart => exact ⟨M, Nat.le_refl _, hbnd.1, rfl, Lib.hid (by rw [Nat.sub_self]; simp [Nat.mod_one])⟩
    case round =>
      obtain ⟨p, hp1, hp2, rfl, HP⟩ := hrel
      by_cases hlt : p < 8 * s.size
      · have htb := fun w => HTB.out p w (by omega) (by omega)
        by_cases hbit : T / 2 ^ p % 2 = 1
        · have HZ := Lib.hid (HR.out.trans (if_neg (bit_one T M p hp1 hbit)))
          rw [hbit] at htb
          have HTB2 := Lib.hid htb
          clear htb hbit
          go_wp2_with fail
          refine (HTB2.out _).mono ?_
          rintro e w1 ⟨rfl, rfl⟩
          go_wp2_with fail
          go_ret2
          rw [HZ.out]
          exact ⟨none, 0, rfl, nilRow _ _, Below.refl _ _⟩
        · have hbit0 : T / 2 ^ p % 2 = 0 := by omega
          have HN := Lib.hid (low_step T M p hp1 HP.out hbit0)
          rw [hbit0] at htb
          have HTB2 := Lib.hid htb
          clear htb hbit hbit0
          go_wp2_with fail
          refine (HTB2.out _).mono ?_
          rintro e w1 ⟨rfl, rfl⟩
          go_wp2_with fail
          exact ⟨⟨p + 1, by omega, by omega, by go_num, HN⟩, by simp [intOf]; omega⟩
      · obtain rfl : p = 8 * s.size := by omega
        have HZ := Lib.hid (HR.out.trans (if_pos (HTOP.out.symm.trans HP.out)))
        clear HP hp1 hp2 hlt
        go_wp2_with fail
        go_loopw [10, 11, 12, 13] (fun v i _ _ wr => ∃ k : Nat, k ≤ many ∧ i = .int .i64 k ∧ NumRow w.heap.size (B.dg wide k T) v wr ∧ Below w.heap.size w wr) (fun _ i _ _ _ => many - (intOf i).toNat)
        case atStart => exact ⟨0, by omega, rfl, ⟨rfl, Or.inl ⟨rfl, rfl⟩⟩, Below.refl _ _⟩
        case round =>
          obtain ⟨k, hk, rfl, hrow, hbw⟩ := hrel
          by_cases hlt : k < many
          · have hkw := HMW.out k hlt
            have hkI : ((k : Int) * (wide : Int)) = ((k * wide : Nat) : Int) := by simp
            have HSN := Lib.hid (B.dg_snoc wide k T)
            rw [Nat.mul_comm wide k] at HSN
            have hln := B.dg_length wide k T
            generalize k * wide = f at *
            generalize B.dg wide k T = xs at *
            have HROW := Lib.hid hrow
            have HLN := Lib.hid hln
            clear hrow hln
            go_wp2_with fail
            go_loop [12, 13] (fun n j => ∃ t : Nat, t ≤ wide ∧ j = .int .i64 ((wide : Int) - 1 - (t : Int)) ∧ n = .int .u64 ((T / 2 ^ (f + wide - t) % 2 ^ t : Nat) : Int)) (fun _ j => (intOf j + 1).toNat)
            case atStart => exact ⟨0, by omega, by simp, by rw [bits_zero]; rfl⟩
            case round =>
              obtain ⟨t, ht, rfl, rfl⟩ := hrel
              by_cases htw : t < wide
              · have hst := bits_step2 T f wide t htw
                have hvb : T / 2 ^ (f + wide - t) % 2 ^ t * 2 + 1 < 18446744073709551616 := by
                  have h1 : T / 2 ^ (f + wide - t) % 2 ^ t < 2 ^ t := Nat.mod_lt _ (B.pos2 t)
                  have h2 : 2 ^ t ≤ 2 ^ 63 := Nat.pow_le_pow_right (by omega) (by omega)
                  omega
                have hkJ : ((f : Int) + ((wide : Int) - 1 - (t : Int))) = ((f + (wide - 1 - t) : Nat) : Int) := by omega
                have htb := fun w => HTB.out (f + (wide - 1 - t)) w (by omega) (by omega)
                generalize T / 2 ^ (f + wide - t) % 2 ^ t = n at *
                generalize hp : f + (wide - 1 - t) = p at *
                have hpb : p ≤ 8192 := by omega
                have hb2 : T / 2 ^ p % 2 < 2 := by omega
                generalize T / 2 ^ p % 2 = bt at *
                have HST := Lib.hid hst
                have HTB2 := Lib.hid htb
                clear hst htb hp
                go_wp2_with fail
                refine (HTB2.out _).mono ?_
                rintro e w1 ⟨rfl, rfl⟩
                go_wp2_with fail
                refine ⟨⟨t + 1, by omega, by congr 1; omega, ?_⟩, by simp [intOf]; omega⟩
                rw [HST.out]; congr 1
              · obtain rfl : t = wide := by omega
                rw [Nat.add_sub_cancel]
                generalize T / 2 ^ f % 2 ^ t = x at *
                have hxl : (xs.length + 1) * 8 ≤ 140737488355328 := by rw [HLN.out]; omega
                have hb5 : w.heap.size ≤ (wr.alloc (.cells #[.int .u64 (x : Int)] 46)).heap.size := by have := hbw.size; simp; omega
                go_wp2_with (at_builtin; refine wpList_append_one rfl (.tmp 85) (.tmp 87) rfl w.heap.size _ xs.length _ rfl (HROW.out.alloc _) wr.heap.size x rfl (World.cell?_alloc_new _ _ _ _) hxl hb5 ?_)
                intro v' w2 hown2 hgrow2
                go_wp2_with fail
                have hbw2 : Below w.heap.size w w2 := (hbw.alloc hbw.size _).grown hgrow2 (by have := hbw.size; simp; omega) (fun k hk => (HROW.out.lt k hk).1)
                refine ⟨⟨k + 1, by omega, by go_num, ?_, hbw2⟩, by simp [intOf]; omega⟩
                rw [HSN.out]; unfold NumRow; simpa [nv] using hown2
          · obtain rfl : k = many := by omega
            obtain ⟨a, c, rfl, _⟩ := numRow_nums hrow
            generalize B.dg wide k T = xs at *
            go_wp2_with fail
            go_ret2
            rw [HZ.out]
            exact ⟨a, c, rfl, hrow, hbw⟩

theorem unpackOo_any (s : ByteArray) (many wide : Int) (w : World) (hs : s.size ≤ maxLen) :
    Calls Tryz.prog 60 #[.string s, .int .i64 many, .int .i64 wide] w (AllPostO (unpR s.data.toList many wide) w) := by
  unfold unpR chkR
  by_cases h0 : wide < 0 ∨ 64 < wide ∨ many < 0
  · rw [if_pos h0, if_neg (by omega)]; exact unpackOo_range s many wide w h0
  obtain ⟨n, rfl⟩ : ∃ n : Nat, wide = n := ⟨wide.toNat, by omega⟩
  rw [if_neg h0]
  by_cases h1 : 64 < many
  · rw [if_pos h1, if_neg (by omega)]; exact unpackOo_many s many n w (by omega) h1
  obtain ⟨m, rfl⟩ : ∃ m : Nat, many = m := ⟨many.toNat, by omega⟩
  rw [if_neg h1, Int.toNat_natCast, Int.toNat_natCast]
  unfold chkF
  rw [len_data]
  by_cases h2 : s.size = B.sz (m * n)
  · have h := unpackOo_in s m n w (by omega) (by omega) h2
    by_cases h3 : B.leN s.data.toList / 2 ^ (m * n) = 0
    · rw [if_pos h3] at h
      have e : (if s.size ≠ B.sz (m * n) ∨ B.leN s.data.toList / 2 ^ (m * n) ≠ 0 then 1 else 0) = 0 := if_neg (by rintro (x | x); exact x h2; exact x h3)
      rw [e, if_pos rfl]; exact h
    · rw [if_neg h3] at h
      rw [if_pos (Or.inr h3), if_neg (by omega)]; exact h
  · rw [if_pos (Or.inl h2), if_neg (by omega)]
    exact unpackOo_form s m n w (by omega) (by omega) hs h2
end Go.Proofs.YtmiboibadccceaaGreat
/- The walk of hypostyleref.PatchOf. -/
namespace Go.Proofs.YtmiboibadccceaaGreat
open Go.RowKit
set_option linter.unusedVariables false

theorem rvof_any (s : ByteArray) (w : World) (hs : s.size ≤ maxLen) : Calls Tryz.prog 106 #[.string s] w (ReadPost (V.rd s.data.toList) w) := by
  by_cases h : s.size = 0
  · rw [data_empty s h]; exact vof_empty s w h
  · exact vof_any s w hs (by omega)
theorem AllPost.none_ {w w' : World} (er : Nat) (h : Below w.heap.size w w') : AllPost ([], er) w (.returned (.tuple #[.slice Option.none 0 0, .int .i64 er])) w' :=
  ⟨Option.none, 0, rfl, Nums.nil _ _ _, h⟩
theorem readN_bad (s : List UInt8) (many er : Nat) (h : (P.head s many).2.2.2.2.2 = er) (he : er ≠ 0) : P.readN s many = ([], er) := by
  unfold P.readN; simp only [h, if_pos he]
theorem readN_ok (s : List UInt8) (many b w out : Nat) (p : List Nat) (u : List UInt8) (h : P.head s many = (b, w, p, u, out, 0)) : P.readN s many = P.fin b (P.mend w out p u 0) := by
  unfold P.readN; rw [h]; simp
theorem fin_bad (b : Nat) (m : List Nat) (er : Nat) (he : er ≠ 0) : P.fin b (m, er) = ([], er) := by
  unfold P.fin; rw [if_pos he]

/-- so far none is too much -/
def NoOver (b : Nat) (xs : List Nat) (j : Nat) : Prop := ∀ i, i < j → over b (xs.getD i 0) = false
theorem NoOver.all {b : Nat} {xs : List Nat} (h : NoOver b xs xs.length) : P.fin b (xs, 0) = (xs.map fun n => n + b, 0) := by
  have e : xs.any (over b) = false := by
    rw [List.any_eq_false]
    intro x hx
    obtain ⟨i, hi, he⟩ := List.mem_iff_getElem.1 hx
    have := h i hi
    simp only [List.getD, List.getElem?_eq_getElem hi, Option.getD_some] at this
    rw [← he, this]; simp
  show (if (0 : Nat) ≠ 0 then _ else if xs.any (over b) = true then _ else _) = _
  rw [if_neg (by simp), e, if_neg (by simp)]
theorem over_fin {b : Nat} {xs : List Nat} {i : Nat} (hi : i < xs.length) (h : over b (xs.getD i 0) = true) : P.fin b (xs, 0) = ([], 8) := by
  have e : xs.any (over b) = true := List.any_eq_true.2 ⟨_, getD_mem xs i hi, h⟩
  show (if (0 : Nat) ≠ 0 then _ else if xs.any (over b) = true then _ else _) = _
  rw [if_neg (by simp), e, if_pos rfl]
theorem NoOver.succ {b : Nat} {xs : List Nat} {j : Nat} (h : NoOver b xs j) (hj : over b (xs.getD j 0) = false) : NoOver b xs (j + 1) := by
  intro i hi
  by_cases e : i = j
  · rw [e]; exact hj
  · exact h i (by omega)

set_option maxHeartbeats 4000000 in
set_option maxRecDepth 100000 in
theorem rpof_in (s : ByteArray) (many : Nat) (w : World) (hs : s.size ≤ maxLen) (hm : many ≤ 64) :
    Calls Tryz.prog 59 #[.string s, .int .i64 many] w (AllPost (P.readN s.data.toList many) w) := by
  have gm1 : decide ((many : Int) < 0) = false := decide_eq_false (by omega)
  have gm2 : decide ((64 : Int) < (many : Int)) = false := decide_eq_false (by omega)
  have hmax := hs
  unfold maxLen at hmax
  have hv := fun w => rvof_any s w hs
  have hbad := V.rd_bad s.data.toList
  have hok := fun n k (h : V.rd s.data.toList = (n, k, 0)) => V.rd_ok s.data.toList n k h
  have hhd : P.head s.data.toList many = P.head s.data.toList many := rfl
  conv at hhd => rhs; unfold P.head
  obtain ⟨b, k, er, hr⟩ : ∃ b k er, V.rd s.data.toList = (b, k, er) := ⟨_, _, _, rfl⟩
  rw [hr] at hv hbad hok hhd
  simp only at hbad hhd
  have HV := Lib.hid hv
  clear hv hr
  by_cases he : er ≠ 0
  · rw [if_pos he] at hhd
    have HR := Lib.hid (readN_bad _ _ er (congrArg (fun x => x.2.2.2.2.2) hhd) he)
    have g1 : ((er : Int) != 0) = true := by rw [bne_iff_ne]; omega
    clear hhd hbad hok
    go_enter Tryz.func59, Tryz.ntmps59
    go_wp2_with fail
    refine (HV.out _).mono ?_
    rintro e1 w1 ⟨rfl, hb⟩
    go_wp2_with fail
    go_ret2
    rw [HR.out]
    exact AllPost.none_ er hb
  rw [if_neg he] at hhd
  obtain rfl : er = 0 := by omega
  obtain ⟨k1, k2, hx1, hb64, k9, hx2⟩ := hok b k rfl
  clear hx1 hx2
  rw [len_data] at k2
  clear he hbad hok
  have hkI : (k : Int) ≤ (s.size : Int) := by omega
  obtain ⟨T, hT⟩ : ∃ T, T = s.extract k s.size := ⟨_, rfl⟩
  have hdT : T.data.toList = s.data.toList.drop k := by rw [hT, cut_data]
  have hTs : T.size = s.size - k := by rw [hT]; simp
  rw [← hdT] at hhd
  rw [len_data] at hhd
  have hTm : T.size ≤ 9223372036854775807 := by omega
  by_cases h2 : T.size < 2
  · rw [if_pos h2] at hhd
    have HR := Lib.hid (readN_bad _ _ 5 (congrArg (fun x => x.2.2.2.2.2) hhd) (by decide))
    have g2 : decide (s.size - k < 2) = true := decide_eq_true (by omega)
    have g2' : decide (((s.size - k : Nat) : Int) < 2) = true := decide_eq_true (by omega)
    clear hhd hdT hT
    go_enter Tryz.func59, Tryz.ntmps59
    go_wp2_with fail
    refine (HV.out _).mono ?_
    rintro e1 w1 ⟨rfl, hb⟩
    go_wp2_with fail
    go_ret2
    rw [HR.out]
    exact AllPost.none_ 5 hb
  rw [if_neg h2] at hhd
  have g2 : decide (s.size - k < 2) = false := decide_eq_false (by omega)
  have g2' : decide (((s.size - k : Nat) : Int) < 2) = false := decide_eq_false (by omega)
  have ht0 : 0 < T.size := by omega
  have ht1 : 1 < T.size := by omega
  have ht0I : (0 : Int) < (T.size : Int) := by omega
  have ht1I : (1 : Int) < (T.size : Int) := by omega
  have ht2I : (2 : Int) ≤ (T.size : Int) := by omega
  have e0 : T.data.toList.getD 0 0 = T[0] := by simp [List.getD, ByteArray.getElem_eq_getElem_data, ht0]
  have e1 : T.data.toList.getD 1 0 = T[1] := by simp [List.getD, ByteArray.getElem_eq_getElem_data, ht1]
  rw [e0, e1] at hhd
  have hu1 := T[0].toNat_lt
  have hu2 := T[1].toNat_lt
  obtain ⟨wd, hwd⟩ : ∃ wd, wd = T[0].toNat := ⟨_, rfl⟩
  obtain ⟨ct, hct⟩ : ∃ ct, ct = T[1].toNat := ⟨_, rfl⟩
  rw [← hwd, ← hct] at hhd
  have hwb : wd < 256 := by omega
  have hcb : ct < 256 := by omega
  have HW1 := Lib.hid (show wrap64 (T[0].toNat : Int) = (wd : Int) by unfold wrap64; omega)
  have HW2 := Lib.hid (show wrap64 (T[1].toNat : Int) = (ct : Int) by unfold wrap64; omega)
  have HT := Lib.hid hT
  have HTS := Lib.hid hTs
  clear hwd hct e0 e1 hu1 hu2 h2 hdT hT hTs
  by_cases h64 : 64 < wd
  · rw [if_pos h64] at hhd
    have HR := Lib.hid (readN_bad _ _ 3 (congrArg (fun x => x.2.2.2.2.2) hhd) (by decide))
    have g3 : decide ((64 : Int) < (wd : Int)) = true := decide_eq_true (by omega)
    clear hhd
    go_enter Tryz.func59, Tryz.ntmps59
    go_wp2_with fail
    refine (HV.out _).mono ?_
    rintro e1 w1 ⟨rfl, hb⟩
    go_wp2_with fail
    rw [← HT.out]
    have hw1 := HW1.out
    have hw2 := HW2.out
    go_quiet (fail)
    rw [hw1, hw2]
    clear hw1 hw2
    go_wp2_with fail
    go_ret2
    rw [HR.out]
    exact AllPost.none_ 3 (below_drewN hb _)
  rw [if_neg h64] at hhd
  have g3 : decide ((64 : Int) < (wd : Int)) = false := decide_eq_false (by omega)
  have hwd64 : wd ≤ 64 := by omega
  have hmul := Nat.mul_le_mul hm hwd64
  have hzb : B.sz (many * wd) ≤ 512 := by unfold B.sz; omega
  obtain ⟨U, hU⟩ : ∃ U, U = T.extract 2 T.size := ⟨_, rfl⟩
  have hdU : U.data.toList = T.data.toList.drop 2 := by rw [hU, cut_data]
  have hUs : U.size = T.size - 2 := by rw [hU]; simp
  rw [← hdU] at hhd
  rw [len_data] at hhd
  have hmI : ((many : Int) * (wd : Int)) = ((many * wd : Nat) : Int) := by simp
  obtain ⟨M, hM⟩ : ∃ M, M = many * wd := ⟨_, rfl⟩
  rw [← hM] at hmI hhd hzb hmul
  have hwm : IntKind.i64.wrap ((many : Int) * (wd : Int)) = (M : Int) := by rw [hmI, IntKind.wrap_i64]; omega
  have hq1 : (((M : Int) + 7) / 8) = ((B.sz M : Nat) : Int) := by unfold B.sz; omega
  have hM0 : (0 : Int) ≤ (M : Int) + 7 := by omega
  by_cases h5 : U.size < B.sz M
  · rw [if_pos h5] at hhd
    have HR := Lib.hid (readN_bad _ _ 5 (congrArg (fun x => x.2.2.2.2.2) hhd) (by decide))
    rw [hUs] at h5
    generalize B.sz M = z at *
    have g5 : decide (T.size - 2 < z) = true := decide_eq_true h5
    clear hhd hdU hU hUs hM
    go_enter Tryz.func59, Tryz.ntmps59
    go_wp2_with fail
    refine (HV.out _).mono ?_
    rintro e1 w1 ⟨rfl, hb⟩
    go_wp2_with fail
    rw [← HT.out]
    have hw1 := HW1.out
    have hw2 := HW2.out
    go_quiet (fail)
    rw [hw1, hw2]
    clear hw1 hw2
    go_wp2_with fail
    go_ret2
    rw [HR.out]
    exact AllPost.none_ 5 (below_drewN hb _)
  rw [if_neg h5] at hhd
  have hd1 : (U.extract 0 (B.sz M)).data.toList = U.data.toList.take (B.sz M) := take_data _ _
  have hl1 : (U.data.toList.take (B.sz M)).length = B.sz M := by rw [List.length_take, len_data]; omega
  have hun := fun W => unpackOo_any (U.extract 0 (B.sz M)) (many : Int) (wd : Int) W (by rw [← len_data, hd1, hl1]; unfold maxLen; omega)
  rw [hd1, unpR_eq _ many wd hm hwd64 (by rw [hl1, hM]), ← hM] at hun
  have hdl : (B.dg wd many (B.leN (U.data.toList.take (B.sz M)))).length = many := B.dg_length _ _ _
  have hd2 : (U.extract (B.sz M) U.size).data.toList = U.data.toList.drop (B.sz M) := cut_data _ _
  have hd3 : (U.extract (B.sz M) U.size).size ≤ s.size := by have := HTS.out; simp; omega
  generalize B.dg wd many (B.leN (U.data.toList.take (B.sz M))) = pk at *
  generalize B.leN (U.data.toList.take (B.sz M)) / 2 ^ M = top at *
  have g5 : decide (T.size - 2 < B.sz M) = false := decide_eq_false (by omega)
  have hzU : B.sz M ≤ U.size := by omega
  have hzT : B.sz M ≤ T.size - 2 := by omega
  generalize B.sz M = z at *
  by_cases h6 : top ≠ 0
  · rw [if_pos h6] at hhd hun
    have HR := Lib.hid (readN_bad _ _ 1 (congrArg (fun x => x.2.2.2.2.2) hhd) (by decide))
    rw [hU] at hun
    have HUN := Lib.hid hun
    clear hhd hdU hd1 hl1 hd2 hd3 hun hdl hU hUs hzU hM h5
    go_enter Tryz.func59, Tryz.ntmps59
    go_wp2_with fail
    refine (HV.out _).mono ?_
    rintro e1 w1 ⟨rfl, hb⟩
    go_wp2_with fail
    rw [← HT.out]
    have hw1 := HW1.out
    have hw2 := HW2.out
    go_quiet (fail)
    rw [hw1, hw2]
    clear hw1 hw2
    go_wp2_with fail
    refine (HUN.out _).mono ?_
    rintro e3 w3 ⟨a3, c3, rfl, hr3, hb3⟩
    go_wp2_with fail
    go_ret2
    rw [HR.out]
    exact AllPost.none_ 1 (below_then (below_drewN hb _) hb3)
  rw [if_neg h6] at hhd hun
  have hrn := readN_ok _ _ _ _ _ _ _ hhd
  rw [← hd2] at hrn
  rw [hUs] at hrn hd3
  have HRN := Lib.hid hrn
  have HDL := Lib.hid hdl
  have HUN := Lib.hid (fun W => show Calls Tryz.prog 60 #[.string ((T.extract 2 T.size).extract 0 z), .int .i64 many, .int .i64 wd] W (fun e w' => ∃ a c, e = .returned (.tuple #[.slice a many c, .int .i64 0]) ∧ NumRow W.heap.size pk (.slice a many c) w' ∧ Below W.heap.size W w') from
    hU ▸ (hun W).mono fun e w' ⟨a, c, he, hr, hb⟩ => ⟨a, c, by rw [he]; simp only [hdl]; rfl, by simp only [hdl] at hr; exact hr, hb⟩)
  rw [hU] at HRN hd3
  generalize hR : P.readN s.data.toList many = R at *
  have HD3 := Lib.hid hd3
  clear hhd hdU hd1 hl1 hd2 hd3 hun hrn hdl hU hUs hzU hM h5 hR
  go_enter Tryz.func59, Tryz.ntmps59
  go_wp2_with fail
  refine (HV.out _).mono ?_
  rintro e1 w1 ⟨rfl, hb⟩
  go_wp2_with fail
  rw [← HT.out]
  have hw1 := HW1.out
  have hw2 := HW2.out
  go_quiet (fail)
  rw [hw1, hw2]
  clear hw1 hw2
  go_wp2_with fail
  refine (HUN.out _).mono ?_
  rintro e3 w3 ⟨a3, c3, rfl, hr3, hb3⟩
  have h3 := below_then (below_drewN hb nq) hb3
  have HR3 := Lib.hid (show NumRow w.heap.size pk (.slice a3 many c3) w3 from by
    refine ⟨hr3.1, ?_⟩
    rcases hr3.2 with hn | ⟨g, cap, cur, e1, e2, e3⟩
    · exact Or.inl hn
    · exact Or.inr ⟨g, cap, cur, e1, by have := hb.size; have : (w1.drewN nq).heap.size = w1.heap.size := by simp
                                        omega, e3⟩)
  clear hr3
  go_wp2_with fail
  go_loopw [0, 13, 14] (fun sv bf i wr => ∃ (j nx : Nat) (t : ByteArray) (lb : Int) (xs : List Nat), j ≤ ct ∧ i = .int .i64 j ∧ sv = .string t ∧ bf = .int .i64 lb ∧ Hid (lb = (nx : Int) - 1) ∧ Hid (P.fin b (P.mend wd (ct - j) xs t.data.toList nx) = R) ∧ t.size ≤ s.size ∧ Hid (xs.length = many) ∧ -1 ≤ lb ∧ lb ≤ 255 ∧ NumRow w.heap.size xs (.slice a3 many c3) wr ∧ Below w.heap.size w wr) (fun _ _ i _ => ct - (intOf i).toNat)
  case atStart => exact ⟨0, 0, _, -1, pk, by omega, rfl, rfl, rfl, Lib.hid rfl, Lib.hid HRN.out.symm, HD3.out, HDL, by omega, by omega, HR3.out, h3⟩
  case round =>
    obtain ⟨j, nx, t, lb, xs, hj, rfl, rfl, rfl, HBN, HM, hts, HXL, hb1, hb2, hnr, hbw⟩ := hrel
    have hBw := hbw.size
    by_cases hlt : j < ct
    · have hjI : (j : Int) < (ct : Int) := by omega
      obtain ⟨q, hq⟩ : ∃ q, ct - j = q + 1 := ⟨ct - j - 1, by omega⟩
      have hM := HM.out
      rw [hq] at hM
      have HQ := Lib.hid hq
      clear hq HM
      by_cases h0 : t.size = 0
      · have he : ((t.size : Int) == 0) = true := by rw [beq_iff_eq]; omega
        rw [data_empty t h0, mend_nil, fin_bad _ _ _ (by decide)] at hM
        have HM := Lib.hid hM
        clear hM h0
        go_wp2_with fail
        go_ret2
        rw [← HM.out]
        exact AllPost.none_ 5 hbw
      · have he : ((t.size : Int) == 0) = false := by rw [beq_eq_false_iff_ne]; omega
        have hp : 0 < t.size := by omega
        have hpI : (0 : Int) < (t.size : Int) := by omega
        obtain ⟨tl, hd⟩ := head_cons t hp
        have hdt : (t.extract 1 t.size).data.toList = tl := by rw [cut_data, hd]; rfl
        rw [hd] at hM
        unfold P.mend at hM
        have hu8 := t[0].toNat_lt
        obtain ⟨cc, hcc⟩ : ∃ cc, cc = t[0].toNat := ⟨_, rfl⟩
        have hc256 : cc < 256 := by omega
        have HW := Lib.hid (show wrap64 (t[0].toNat : Int) = (cc : Int) by unfold wrap64; omega)
        rw [← hcc] at hM
        have hsl1 : (1 : Int) ≤ (t.size : Int) := by omega
        have HDT := Lib.hid hdt
        clear hcc hd hdt hu8
        by_cases h1 : xs.length ≤ cc
        · rw [if_pos h1, fin_bad _ _ _ (by decide)] at hM
          have HM := Lib.hid hM
          rw [HXL.out] at h1
          have g1 : decide (many ≤ cc) = true := decide_eq_true h1
          clear hM
          have hw64 := HW.out
          go_wp2_with fail
          go_ret2
          rw [← HM.out]
          exact AllPost.none_ 3 hbw
        rw [if_neg h1] at hM
        have hcN : cc < many := by have := HXL.out; omega
        have g1 : decide (many ≤ cc) = false := decide_eq_false (by omega)
        have hcNI : (cc : Int) < (many : Int) := by omega
        have hcx : cc < xs.length := by omega
        clear h1
        by_cases h2 : cc < nx
        · rw [if_pos h2, fin_bad _ _ _ (by decide)] at hM
          have HM := Lib.hid hM
          have g2 : decide ((cc : Int) ≤ lb) = true := decide_eq_true (by have := HBN.out; omega)
          clear hM
          have hw64 := HW.out
          go_wp2_with fail
          go_ret2
          rw [← HM.out]
          exact AllPost.none_ 4 hbw
        rw [if_neg h2] at hM
        have hbc : lb < (cc : Int) := by have := HBN.out; omega
        have g2 : decide ((cc : Int) ≤ lb) = false := decide_eq_false (by omega)
        obtain ⟨g, rfl, hclr, hgB, hgw⟩ := hnr.form (fun e => by rw [e] at hcx; simp at hcx)
        have ck := hnr.cell cc hcx
        have fk := hnr.free cc
        clear h2 hclr
        by_cases h3 : xs.getD cc 0 ≠ 0
        · rw [if_pos h3, fin_bad _ _ _ (by decide)] at hM
          have HM := Lib.hid hM
          generalize xs.getD cc 0 = x at *
          have g3 : ((x : Int) != 0) = true := by rw [bne_iff_ne]; omega
          clear hM
          have hw64 := HW.out
          go_wp2_with fail
          go_ret2
          rw [← HM.out]
          exact AllPost.none_ 1 hbw
        rw [if_neg h3] at hM
        generalize xs.getD cc 0 = x at *
        have g3 : ((x : Int) != 0) = false := by rw [bne_eq_false_iff_eq]; omega
        clear h3
        have hrd := fun W => rvof_any (t.extract 1 t.size) W (by simp; unfold maxLen; omega)
        rw [HDT.out] at hrd
        have hbad := V.rd_bad tl
        have hok := fun n k (h : V.rd tl = (n, k, 0)) => V.rd_ok tl n k h
        generalize V.rd tl = r at *
        obtain ⟨n, kk, er⟩ := r
        simp only at hM hbad
        have HRD := Lib.hid hrd
        clear hrd
        by_cases h4 : er ≠ 0
        · rw [if_pos h4, fin_bad _ _ _ h4] at hM
          have HM := Lib.hid hM
          have g4 : ((er : Int) != 0) = true := by rw [bne_iff_ne]; omega
          clear hM hbad hok
          have hw64 := HW.out
          go_wp2_with fail
          refine (HRD.out _).mono ?_
          rintro e w2 ⟨rfl, hbb⟩
          go_wp2_with fail
          go_ret2
          rw [← HM.out]
          exact AllPost.none_ er (below_then hbw hbb)
        rw [if_neg h4] at hM
        obtain rfl : er = 0 := by omega
        obtain ⟨kk1, kk2, hz1, kkn, kk9, hz2⟩ := hok n kk rfl
        clear h4 hbad hok hz1 hz2
        by_cases h5 : B.bl n ≤ wd
        · rw [if_pos h5, fin_bad _ _ _ (by decide)] at hM
          have HM := Lib.hid hM
          have hpf := fun W => fits_any n wd W kkn hwd64
          rw [decide_eq_true h5] at hpf
          have HPF := Lib.hid hpf
          clear hM h5 hpf
          have hw64 := HW.out
          go_wp2_with fail
          refine (HRD.out _).mono ?_
          rintro e w2 ⟨rfl, hbb⟩
          go_wp2_with fail
          refine (HPF.out _).mono ?_
          rintro e w4 ⟨rfl, rfl⟩
          go_wp2_with fail
          go_ret2
          rw [← HM.out]
          exact AllPost.none_ 1 (below_then hbw hbb)
        rw [if_neg h5] at hM
        have HM := Lib.hid hM
        have hpf := fun W => fits_any n wd W kkn hwd64
        rw [decide_eq_false h5] at hpf
        have HPF := Lib.hid hpf
        have htk : tl.length + 1 = t.size := by have h := HDT.out; have := congrArg List.length h; rw [len_data] at this; simp at this; omega
        have hks : 1 + kk ≤ t.size := by omega
        have hksI : (1 : Int) + (kk : Int) ≤ (t.size : Int) := by omega
        have hkkI : IntKind.i64.wrap ((1 : Int) + (kk : Int)) = ((1 + kk : Nat) : Int) := by rw [IntKind.wrap_i64]; omega
        have hdk : (t.extract (1 + kk) t.size).data.toList = tl.drop kk := by
          rw [cut_data, ← List.drop_drop, ← HDT.out, cut_data]
        have HDK := Lib.hid hdk
        have hNR := Lib.hid hnr
        clear hM h5 hdk hnr htk hpf
        have hw64 := HW.out
        go_wp2_with fail
        refine (HRD.out _).mono ?_
        rintro e w2 ⟨rfl, hbb⟩
        go_wp2_with fail
        refine (HPF.out _).mono ?_
        rintro e w4 ⟨rfl, rfl⟩
        have hc2 : w2.cell? ⟨g, cc, none⟩ = some (.int .u64 (x : Int)) := (hbb.cell (p := ⟨g, cc, none⟩) hgw).trans ck
        have hf2 : w2.frozen? ⟨g, cc, none⟩ = false := (hbb.frozen (p := ⟨g, cc, none⟩) hgw).trans fk
        clear hw64
        have HN2 := Lib.hid ((hNR.out.below hbb).put cc n)
        have HB2 := Lib.hid ((below_then hbw hbb).setCell (p := ⟨g, cc, none⟩) hgB (.int .u64 (n : Int)))
        have HXL2 := Lib.hid (show (xs.set cc n).length = many by rw [List.length_set]; exact HXL.out)
        have HM2 := Lib.hid (show P.fin b (P.mend wd (ct - (j + 1)) (xs.set cc n) (t.extract (1 + kk) t.size).data.toList (cc + 1)) = R by rw [HDK.out, show ct - (j + 1) = q by have := HQ.out; omega]; exact HM.out)
        have hsz2 : (t.extract (1 + kk) t.size).size ≤ s.size := by simp; omega
        go_wp2_with fail
        exact ⟨⟨j + 1, cc + 1, _, (cc : Int), xs.set cc n, by omega, by go_num, rfl, rfl, Lib.hid (by omega), HM2, hsz2, HXL2, by omega, by omega, HN2.out, HB2.out⟩, by simp [intOf]; omega⟩
    · obtain rfl : j = ct := by omega
      have hM := HM.out
      rw [Nat.sub_self] at hM
      by_cases h0 : t.size = 0
      · have he : decide ((0 : Int) < (t.size : Int)) = false := decide_eq_false (by omega)
        have heN : ¬ 0 < t.size := by omega
        rw [data_empty t h0, mend_end0] at hM
        have HM := Lib.hid hM
        have HST := Lib.hid (fun j h => add_step xs b j h)
        have HAT := Lib.hid (fun j h => add_at xs b j h)
        have HLN := Lib.hid (fun j h => add_len xs b j h)
        have HNA := Lib.hid (fun (h : NoOver b xs xs.length) => h.all)
        have HOF := Lib.hid (fun i (hi : i < xs.length) (h : over b (xs.getD i 0) = true) => over_fin hi h)
        have H0 := Lib.hid (show (xs.take 0).map (fun n => n + b) ++ xs.drop 0 = xs by simp)
        have HEND := Lib.hid (show (xs.take xs.length).map (fun n => n + b) ++ xs.drop xs.length = xs.map fun n => n + b by simp)
        have HML := Lib.hid (show (xs.map fun n => n + b).length = xs.length by simp)
        have HMB := Lib.hid (show 18446744073709551615 - (18446744073709551615 - b) = b by omega)
        have hsub : IntKind.u64.wrap ((18446744073709551615 : Int) - (b : Int)) = ((18446744073709551615 - b : Nat) : Int) := by rw [IntKind.wrap_u64]; omega
        have hsub2 : (18446744073709551615 : Int) - (b : Int) = ((18446744073709551615 - b : Nat) : Int) := by omega
        have HOV := Lib.hid (fun n => show over b n = decide (18446744073709551615 - b < n) from rfl)
        obtain ⟨mb, hmb⟩ : ∃ mb, mb = 18446744073709551615 - b := ⟨_, rfl⟩
        rw [← hmb] at hsub hsub2 HOV
        have HMB2 := Lib.hid (show mb + b = 18446744073709551615 by omega)
        clear hM h0 hmb HMB hb1 hb2 hts
        have hxl := HXL.out
        have hnr2 := hnr
        rw [← H0.out] at hnr2
        obtain ⟨wq, hwq⟩ : ∃ wq, wq = wr := ⟨_, rfl⟩
        clear hxl hwq wq
        go_wp2_with fail
        go_loopw [19] (fun i wr2 => ∃ p : Nat, p ≤ many ∧ i = .int .i64 p ∧ Hid (NoOver b xs p) ∧ NumRow w.heap.size ((xs.take p).map (fun n => n + b) ++ xs.drop p) (.slice a3 many c3) wr2 ∧ Below w.heap.size w wr2) (fun i _ => many - (intOf i).toNat)
        case atStart => exact ⟨0, by omega, rfl, Lib.hid (fun i hi => absurd hi (by omega)), hnr2, hbw⟩
        case round =>
          obtain ⟨p, hp, rfl, HNO, hnrp, hbwp⟩ := hrel
          by_cases hpl : p < many
          · have hpx : p < xs.length := by rw [HXL.out]; exact hpl
            have hln := HLN.out p (by omega)
            obtain ⟨g, rfl, hclr, hgB, hgw⟩ := hnrp.form (fun e => by rw [e] at hln; simp at hln; omega)
            have cp := hnrp.cell p (by omega)
            rw [HAT.out p hpx] at cp
            have fp := hnrp.free p
            have HS := Lib.hid (HST.out p hpx)
            have HSU := Lib.hid (fun h => HNO.out.succ h)
            have HOP := Lib.hid (HOF.out p hpx)
            generalize xs.getD p 0 = x at *
            generalize (xs.take p).map (fun n => n + b) ++ xs.drop p = acc at *
            have hpI : (p : Int) < (many : Int) := by omega
            rw [HOV.out x] at HSU HOP
            clear hclr
            by_cases hov : mb < x
            · have g6 : decide (mb < x) = true := decide_eq_true hov
              have hfin := HOP.out (by rw [g6])
              rw [HM.out] at hfin
              have HF := Lib.hid hfin
              clear hfin hov hln
              go_wp2_with fail
              go_ret2
              rw [HF.out]
              exact AllPost.none_ 8 hbwp
            · have g6 : decide (mb < x) = false := decide_eq_false hov
              have HN2 := Lib.hid (HSU.out (by rw [g6]))
              have hxy : x + b < 18446744073709551616 := by have := HMB2.out; omega
              have hwr : IntKind.u64.wrap ((x : Int) + (b : Int)) = ((x + b : Nat) : Int) := by rw [IntKind.wrap_u64]; omega
              have hw2 : (x : Int) + (b : Int) = ((x + b : Nat) : Int) := by omega
              generalize x + b = y at *
              have HNR2 := Lib.hid (hnrp.put p y)
              have HBW2 := Lib.hid (hbwp.setCell (p := ⟨g, p, none⟩) hgB (.int .u64 (y : Int)))
              clear hov hln hnrp
              go_wp2_with fail
              exact ⟨⟨p + 1, by omega, by go_num, HN2, by rw [← HS.out]; exact HNR2.out, HBW2.out⟩, by simp [intOf]; omega⟩
          · obtain rfl : p = many := by omega
            have hno := HNO.out
            rw [← HXL.out] at hno hnrp
            rw [HEND.out] at hnrp
            have hres := HNA.out hno
            rw [HM.out] at hres
            have HRS := Lib.hid hres
            obtain ⟨a', c', hev, hnum⟩ := numRow_nums hnrp
            obtain ⟨rfl, rfl⟩ : a3 = a' ∧ c3 = c' := by injection hev with h1 h2 h3; exact ⟨h1, h3⟩
            have HNM := Lib.hid hnum
            have HML2 := Lib.hid (show (xs.map fun n => n + b).length = p by rw [HML.out, HXL.out])
            clear hev hnrp hnum hres hno
            go_wp2_with fail
            go_ret2
            rw [HRS.out]
            exact ⟨a3, c3, by rw [HML2.out]; rfl, HNM.out, hbwp⟩
      · have he : decide ((0 : Int) < (t.size : Int)) = true := decide_eq_true (by omega)
        have heN : 0 < t.size := by omega
        rw [mend_end1 _ _ _ _ (data_ne t h0), fin_bad _ _ _ (by decide)] at hM
        have HM := Lib.hid hM
        clear hM h0
        go_wp2_with fail
        go_ret2
        rw [← HM.out]
        exact AllPost.none_ 1 hbw

theorem rpof_any (s : ByteArray) (many : Int) (w : World) (hs : s.size ≤ maxLen) :
    Calls Tryz.prog 59 #[.string s, .int .i64 many] w (AllPost (P.read s.data.toList many) w) := by
  unfold P.read
  by_cases h0 : many < 0
  · rw [if_pos h0]
    have g1 : decide (many < 0) = true := decide_eq_true h0
    go_enter Tryz.func59, Tryz.ntmps59
    go_wp2_with fail
    go_ret2
    exact AllPost.none_ 3 (Below.refl _ _)
  rw [if_neg h0]
  obtain ⟨m, rfl⟩ : ∃ m : Nat, many = m := ⟨many.toNat, by omega⟩
  by_cases h1 : 64 < (m : Int)
  · rw [if_pos h1]
    have g1 : decide ((m : Int) < 0) = false := decide_eq_false h0
    have g2 : decide ((64 : Int) < (m : Int)) = true := decide_eq_true h1
    go_enter Tryz.func59, Tryz.ntmps59
    go_wp2_with fail
    go_ret2
    exact AllPost.none_ 2 (Below.refl _ _)
  rw [if_neg h1, Int.toNat_natCast]
  exact rpof_in s m w hs (by omega)
end Go.Proofs.YtmiboibadccceaaGreat
/- Texts, compared. -/
namespace Go.Proofs.YtmiboibadccceaaGreat
open Go.RowKit
set_option linter.unusedVariables false

theorem str_inj {a b : List UInt8} (h : str a = str b) : a = b := by
  have := congrArg (fun s : ByteArray => s.data.toList) h
  simpa [str] using this
theorem less_eq (a b : List UInt8) : Op.bytesLess (str a).toList (str b).toList = decide (a < b) := by
  rw [str_toList, str_toList]; exact Go.Proofs.bytesLess_eq a b

theorem str_at (x : List UInt8) (i : Nat) (h : i < (str x).size) (h2 : i < x.length) : (str x)[i] = x[i] := by
  simp [str, ByteArray.getElem_eq_getElem_data]
theorem tl_eq (x y : List UInt8) : ((str x).toList == (str y).toList) = decide (x = y) := by
  rw [str_toList, str_toList]
  by_cases h : x = y
  · subst h; simp
  · simp [h]
end Go.Proofs.YtmiboibadccceaaGreat
/- Slices of texts. -/
namespace Go.Proofs.YtmiboibadccceaaGreat
open Go.RowKit
set_option linter.unusedVariables false

def tv (l : List (List UInt8)) : List Value := l.map fun x => Value.string (str x)
theorem tv_length (l : List (List UInt8)) : (tv l).length = l.length := by simp [tv]
theorem info_str : (Tryz.prog.info? 9).map (fun i => (i.zero, i.size, i.bytes)) = some (some (.string ByteArray.empty), 1, 16) := by kernel_rfl
/-- a slice's texts, read below block B -/
def Txts (w : World) (B : Nat) (a : Option Addr) (l : List (List UInt8)) : Prop :=
  l ≠ [] → ∃ b off, a = some ⟨b, off, none⟩ ∧ b < B ∧ ∀ i, i < l.length → w.cell? ⟨b, off + i, none⟩ = some (.string (str (l.getD i [])))
theorem Txts.below {w w' : World} {B : Nat} {a : Option Addr} {l : List (List UInt8)} (h : Txts w B a l) (hb : Below B w w') : Txts w' B a l := by
  intro hl
  obtain ⟨b, off, e, hlt, hc⟩ := h hl
  exact ⟨b, off, e, hlt, fun i hi => by rw [hb.cell (p := ⟨b, off + i, none⟩) hlt]; exact hc i hi⟩
theorem Txts.mono {w : World} {B B' : Nat} {a : Option Addr} {l : List (List UInt8)} (h : Txts w B a l) (hB : B ≤ B') : Txts w B' a l := by
  intro hl
  obtain ⟨b, off, e, hlt, hc⟩ := h hl
  exact ⟨b, off, e, by omega, hc⟩
theorem Txts.nil (w : World) (B : Nat) (a : Option Addr) : Txts w B a [] := fun h => absurd rfl h
theorem Txts.next {w w' : World} {a : Option Addr} {l : List (List UInt8)} (h : Txts w w.heap.size a l) (hb : Below w.heap.size w w') : Txts w' w'.heap.size a l := (h.below hb).mono hb.size

/-- a slice of texts that the call made -/
def TRow (B : Nat) (xs : List (List UInt8)) (v : Value) (wr : World) : Prop := wr.ownsRow B 9 1 v xs.length (tv xs)
theorem tRow_txts {B : Nat} {xs : List (List UInt8)} {v : Value} {w : World} (h : TRow B xs v w) : ∃ a c, v = .slice a xs.length c ∧ Txts w w.heap.size a xs ∧ xs.length ≤ c ∧ c ≤ maxLen := by
  unfold TRow at h
  rcases h.2 with ⟨rfl, h0⟩ | ⟨g, cap, cur, rfl, e2, e3, e4, e5, e6⟩
  · refine ⟨none, 0, by rw [h0], ?_, by omega, by unfold maxLen; omega⟩
    rw [List.eq_nil_of_length_eq_zero h0]; exact Txts.nil _ _ _
  · refine ⟨some ⟨g, 0, none⟩, cap, rfl, fun _ => ⟨g, 0, rfl, lt_of_block e3, fun i hi => ?_⟩, e4, e5⟩
    rw [Nat.zero_add, h.cellAt i (by omega)]
    simp [tv, List.getElem?_eq_getElem hi]
theorem TRow.below {B : Nat} {xs : List (List UInt8)} {v : Value} {w w' : World} (h : TRow B xs v w) (hb : Below w.heap.size w w') : TRow B xs v w' := row_below h hb
theorem TRow.alloc_ {B : Nat} {xs : List (List UInt8)} {v : Value} {w : World} (h : TRow B xs v w) (o : Obj) : TRow B xs v (w.alloc o) := World.ownsRow.alloc h o
theorem tnilRow (B : Nat) (w : World) : TRow B [] (.slice none 0 0) w := ⟨rfl, Or.inl ⟨rfl, rfl⟩⟩
theorem TRow.form {B : Nat} {xs : List (List UInt8)} {a : Option Addr} {n c : Nat} {w : World} (h : TRow B xs (.slice a n c) w) (hne : xs ≠ []) : ∃ g, a = some ⟨g, 0, none⟩ ∧ n = xs.length ∧ B ≤ g ∧ g < w.heap.size := by
  unfold TRow at h
  rcases h.2 with ⟨he, h0⟩ | ⟨g, cap, cur, he, e2, e3, e4⟩
  · exact absurd (List.eq_nil_of_length_eq_zero h0) hne
  · injection he with h1 h2 h3
    exact ⟨g, h1, h2, e2, lt_of_block e3⟩
theorem TRow.cell {B : Nat} {xs : List (List UInt8)} {g n c : Nat} {w : World} (h : TRow B xs (.slice (some ⟨g, 0, none⟩) n c) w) (i : Nat) (hi : i < xs.length) : w.cell? ⟨g, i, none⟩ = some (.string (str (xs.getD i []))) := by
  obtain ⟨a', c', e, _⟩ := tRow_txts h
  injection e with e1 e2 e3
  subst e2
  unfold TRow at h
  rw [h.cellAt i (by omega)]
  simp [tv, List.getElem?_eq_getElem hi]
theorem TRow.free {B : Nat} {xs : List (List UInt8)} {g n c : Nat} {w : World} (h : TRow B xs (.slice (some ⟨g, 0, none⟩) n c) w) (i : Nat) : w.frozen? ⟨g, i, none⟩ = false := by
  obtain ⟨a', c', e, _⟩ := tRow_txts h
  injection e with e1 e2 e3
  subst e2
  exact h.frozenAt i

/-- append of one text onto a row of the call's own -/
theorem wpList_append_onet {w : World} {ops : Array Oper} {rest : List Oper} {o : Oper} {a : Act} {Q : Exit → Act → World → Prop} (hgd : o.guard = none) (s x : Operand)
    (ho : o.op = .call { callee := .builtin .append, args := #[s, x], argTypes := #[31, 31] }) (base : Nat)
    (v : Value) (xs : List (List UInt8)) (hs : a.eval s = v) (hown : TRow base xs v w)
    (g : Nat) (y : List UInt8) (hx : a.eval x = .slice (some ⟨g, 0, none⟩) 1 1) (hc : w.cell? ⟨g, 0, none⟩ = some (.string (str y)))
    (hbytes : (xs.length + 1) * 16 ≤ 140737488355328) (hbase : base ≤ w.heap.size)
    (h : ∀ v' w', TRow base (xs ++ [y]) v' w' → Below base w w' → wpList Tryz.prog ops Q rest (a.put o.dst v') w') : wpList Tryz.prog ops Q (o :: rest) a w := by
  obtain ⟨i, hi, hz0, hz1, hz2⟩ := info_parts info_str
  refine wpList_append_own w hgd s x 31 ho base 9 i (.string ByteArray.empty) 1 16 Tryz.underlying31 hi hz0 hz1 hz2 rfl (by decide) v xs.length (tv xs) hs hown ⟨g, 0, none⟩ 1 1 [.string (str y)] hx rfl ?_ ?_ (by unfold maxLen; omega) hbytes hbase (fun v' w' h1 h2 _ => h v' w' ?_ ?_)
  · intro j u hj
    match j, hj with
    | 0, hj => simp at hj; subst hj; simpa [Addr.add] using hc
  · intro u hu; simp at hu; subst hu; rfl
  · unfold TRow; rw [List.length_append]; simpa [tv] using h1
  · exact (Below.refl base w).grown h2 hbase (fun k hk => (hown.lt k hk).1)

theorem tgetD_mem (l : List (List UInt8)) (k : Nat) (hk : k < l.length) : l.getD k [] ∈ l := by
  simp only [List.getD, List.getElem?_eq_getElem hk, Option.getD_some]
  exact List.getElem_mem hk
theorem ttake_succ (l : List (List UInt8)) (k : Nat) (h : k < l.length) : l.take (k + 1) = l.take k ++ [l.getD k []] := by
  rw [List.take_succ_eq_append_getElem h]; simp [List.getD, List.getElem?_eq_getElem h]
end Go.Proofs.YtmiboibadccceaaGreat
/- Plain mathematics of books. -/
namespace Go.Proofs.YtmiboibadccceaaGreat.T
set_option linter.unusedVariables false
abbrev Tx := List UInt8

/-- rising, each once -/
def Up (b : List Tx) : Prop := b.Pairwise (· < ·)
theorem lt_irr (a : Tx) : ¬ a < a := List.lt_irrefl a
theorem lt_tr {a b c : Tx} (h1 : a < b) (h2 : b < c) : a < c := List.lt_trans h1 h2
theorem le_tr {a b c : Tx} (h1 : a ≤ b) (h2 : b ≤ c) : a ≤ c := List.le_trans h1 h2
theorem not_lt {a b : Tx} : ¬ a < b ↔ b ≤ a := Iff.rfl
theorem lt_of_le_ne {a b : Tx} (h : a ≤ b) (hne : a ≠ b) : a < b := by
  rcases Classical.em (a < b) with h1 | h1
  · exact h1
  · exact absurd (List.le_antisymm h h1) hne
theorem le_of_lt {a b : Tx} (h : a < b) : a ≤ b := fun h2 => lt_irr a (lt_tr h h2)
theorem lt_le {a b c : Tx} (h1 : a < b) (h2 : b ≤ c) : a < c := by
  rcases Classical.em (b = c) with e | e
  · rw [← e]; exact h1
  · exact lt_tr h1 (lt_of_le_ne h2 e)
theorem le_lt {a b c : Tx} (h1 : a ≤ b) (h2 : b < c) : a < c := by
  rcases Classical.em (a = b) with e | e
  · rw [e]; exact h2
  · exact lt_tr (lt_of_le_ne h1 e) h2
theorem tri (a b : Tx) : a < b ∨ a = b ∨ b < a := by
  rcases Classical.em (a < b) with h | h
  · exact Or.inl h
  · rcases Classical.em (b < a) with h2 | h2
    · exact Or.inr (Or.inr h2)
    · exact Or.inr (Or.inl (List.le_antisymm h2 h))

/-- the book of a list -/
def bk (l : List Tx) : List Tx := Lib.compact (l.mergeSort fun x y => decide (x ≤ y))

theorem compact_up (s : List Tx) (hs : s.Pairwise (· ≤ ·)) : Up (Lib.compact s) ∧ ∀ x, x ∈ Lib.compact s ↔ x ∈ s := by
  have get : ∀ j (h : j < s.length), s.toArray[j]! = s[j] := fun j h => by simp [h]
  have hle : ∀ i j (hi : i < s.length) (hj : j < s.length), i ≤ j → s[i] ≤ s[j] := by
    intro i j hi hj hij
    rcases Nat.lt_or_eq_of_le hij with h | h
    · exact List.pairwise_iff_getElem.1 hs i j hi hj h
    · subst h; exact lt_irr _
  have main : ∀ m, m ≤ s.length → Up (Lib.compactUpTo s.toArray m) ∧ ∀ x, x ∈ Lib.compactUpTo s.toArray m ↔ ∃ j, ∃ h : j < s.length, j < m ∧ s[j] = x := by
    intro m
    induction m with
    | zero => intro _; refine ⟨by simp [Lib.compactUpTo, Up], fun x => by simp [Lib.compactUpTo]⟩
    | succ m ih =>
      intro hm
      obtain ⟨h1, h2⟩ := ih (by omega)
      rw [Lib.compactUpTo_succ, get m (by omega)]
      by_cases hk : Lib.keeps s.toArray m = true
      · rw [if_pos hk]
        have hk' : m = 0 ∨ s[m] ≠ s[m - 1] := by
          unfold Lib.keeps at hk
          rw [decide_eq_true_iff, get m (by omega), get (m - 1) (by omega)] at hk
          exact hk
        refine ⟨?_, fun x => ?_⟩
        · refine List.pairwise_append.2 ⟨h1, by simp, fun x hx y hy => ?_⟩
          obtain rfl : y = s[m] := by simpa using hy
          obtain ⟨j, hj, hjm, rfl⟩ := (h2 x).1 hx
          rcases hk' with h | h
          · omega
          · have a1 := hle j (m - 1) hj (by omega) (by omega)
            have a2 := hle (m - 1) m (by omega) (by omega) (by omega)
            exact le_lt a1 (lt_of_le_ne a2 (fun e => h e.symm))
        · rw [List.mem_append, h2 x]
          constructor
          · rintro (⟨j, hj, hjm, rfl⟩ | h)
            · exact ⟨j, hj, by omega, rfl⟩
            · exact ⟨m, by omega, by omega, (by simpa using h : x = s[m]).symm⟩
          · rintro ⟨j, hj, hjm, rfl⟩
            by_cases e : j = m
            · subst e; exact Or.inr (by simp)
            · exact Or.inl ⟨j, hj, by omega, rfl⟩
      · rw [if_neg hk, List.append_nil]
        refine ⟨h1, fun x => ?_⟩
        have hk' : m ≠ 0 ∧ s[m] = s[m - 1] := by
          unfold Lib.keeps at hk
          rw [decide_eq_true_iff, get m (by omega), get (m - 1) (by omega)] at hk
          exact ⟨fun e => hk (Or.inl e), Classical.byContradiction fun e => hk (Or.inr e)⟩
        rw [h2 x]
        constructor
        · rintro ⟨j, hj, hjm, rfl⟩; exact ⟨j, hj, by omega, rfl⟩
        · rintro ⟨j, hj, hjm, rfl⟩
          by_cases e : j = m
          · subst e; exact ⟨j - 1, by omega, by have := hk'.1; omega, hk'.2.symm⟩
          · exact ⟨j, hj, by omega, rfl⟩
  have h := main s.length (Nat.le_refl _)
  unfold Lib.compact
  refine ⟨h.1, fun x => ?_⟩
  rw [h.2 x]
  constructor
  · rintro ⟨j, hj, _, rfl⟩; exact List.getElem_mem hj
  · intro hx
    obtain ⟨j, hj, e⟩ := List.mem_iff_getElem.1 hx
    exact ⟨j, hj, hj, e⟩

theorem sorted (l : List Tx) : (l.mergeSort fun x y => decide (x ≤ y)).Pairwise (· ≤ ·) := by
  have tr : ∀ a b c : Tx, decide (a ≤ b) = true → decide (b ≤ c) = true → decide (a ≤ c) = true := fun a b c h1 h2 => by
    rw [decide_eq_true_iff] at *; exact List.le_trans h1 h2
  have to : ∀ a b : Tx, (decide (a ≤ b) || decide (b ≤ a)) = true := fun a b => by
    rw [Bool.or_eq_true, decide_eq_true_iff, decide_eq_true_iff]; exact List.le_total a b
  exact (List.pairwise_mergeSort tr to l).imp (fun h => by simpa using h)
theorem bk_up (l : List Tx) : Up (bk l) := (compact_up _ (sorted l)).1
theorem bk_mem (l : List Tx) (x : Tx) : x ∈ bk l ↔ x ∈ l := by
  unfold bk
  rw [(compact_up _ (sorted l)).2 x]
  exact (List.mergeSort_perm l _).mem_iff

theorem up_get {b : List Tx} (h : Up b) {i j : Nat} (hi : i < b.length) (hj : j < b.length) (hij : i < j) : b[i] < b[j] := List.pairwise_iff_getElem.1 h i j hi hj hij
theorem up_inj {b : List Tx} (h : Up b) {i j : Nat} (hi : i < b.length) (hj : j < b.length) (e : b[i] = b[j]) : i = j := by
  rcases Nat.lt_trichotomy i j with hh | hh | hh
  · have := up_get h hi hj hh; rw [e] at this; exact absurd this (lt_irr _)
  · exact hh
  · have := up_get h hj hi hh; rw [e] at this; exact absurd this (lt_irr _)
theorem up_lt {b : List Tx} (h : Up b) {i j : Nat} (hi : i < b.length) (hj : j < b.length) : b[i] < b[j] ↔ i < j := by
  constructor
  · intro hh
    rcases Nat.lt_trichotomy i j with k | k | k
    · exact k
    · subst k; exact absurd hh (lt_irr _)
    · exact absurd (lt_tr hh (up_get h hj hi k)) (lt_irr _)
  · exact up_get h hi hj
theorem up_nodup {b : List Tx} (h : Up b) : b.Nodup := h.imp (fun {a c} hh e => by rw [e] at hh; exact lt_irr _ hh)

/-- the place of a text: of the first one that is not below it -/
def plc (b : List Tx) (x : Tx) : Nat := b.findIdx fun y => !decide (y < x)
/-- of the first one that is above it -/
def plA (b : List Tx) (x : Tx) : Nat := b.findIdx fun y => decide (x < y)
theorem plc_le (b : List Tx) (x : Tx) : plc b x ≤ b.length := List.findIdx_le_length
theorem plA_le (b : List Tx) (x : Tx) : plA b x ≤ b.length := List.findIdx_le_length
theorem plc_at {b : List Tx} (h : Up b) {i : Nat} (hi : i < b.length) : plc b b[i] = i := by
  unfold plc
  rw [List.findIdx_eq hi]
  refine ⟨by simp [lt_irr], fun j hj => ?_⟩
  have := up_get h (by omega) hi hj
  simp [this]
theorem plc_mem {b : List Tx} (h : Up b) {x : Tx} (hx : x ∈ b) : plc b x < b.length ∧ b.getD (plc b x) [] = x := by
  obtain ⟨i, hi, rfl⟩ := List.mem_iff_getElem.1 hx
  rw [plc_at h hi]
  exact ⟨hi, by simp [List.getD, List.getElem?_eq_getElem hi]⟩
theorem plc_lt {b : List Tx} (h : Up b) {x y : Tx} (hx : x ∈ b) (hy : y ∈ b) : plc b x < plc b y ↔ x < y := by
  obtain ⟨i, hi, rfl⟩ := List.mem_iff_getElem.1 hx
  obtain ⟨j, hj, rfl⟩ := List.mem_iff_getElem.1 hy
  rw [plc_at h hi, plc_at h hj, up_lt h hi hj]
theorem plc_eq {b : List Tx} (h : Up b) {x y : Tx} (hx : x ∈ b) (hy : y ∈ b) : plc b x = plc b y ↔ x = y := by
  obtain ⟨i, hi, rfl⟩ := List.mem_iff_getElem.1 hx
  obtain ⟨j, hj, rfl⟩ := List.mem_iff_getElem.1 hy
  rw [plc_at h hi, plc_at h hj]
  exact ⟨fun e => by subst e; rfl, up_inj h hi hj⟩
/-- at or behind the place of low: not below low -/
theorem plc_ge {b : List Tx} (h : Up b) (low : Tx) {i : Nat} (hi : i < b.length) : plc b low ≤ i ↔ low ≤ b[i] := by
  constructor
  · intro hp
    have hlt : plc b low < b.length := by omega
    have h1 := List.findIdx_getElem (w := hlt)
    have h2 : ¬ b[plc b low] < low := by
      have h3 := h1
      simp only [Bool.not_eq_true', decide_eq_false_iff_not] at h3
      exact h3
    rcases Nat.lt_or_eq_of_le hp with k | k
    · exact le_tr h2 (le_of_lt (up_get h hlt hi k))
    · have : b[plc b low] = b[i] := by congr 1
      rw [← this]; exact h2
  · intro hl
    rcases Nat.lt_or_ge i (plc b low) with k | k
    · have := List.not_of_lt_findIdx k
      have h2 : b[i] < low := by simpa using this
      exact absurd h2 hl
    · exact k
theorem plA_gt {b : List Tx} (h : Up b) (high : Tx) {i : Nat} (hi : i < b.length) : plA b high ≤ i ↔ high < b[i] := by
  constructor
  · intro hp
    have hlt : plA b high < b.length := by omega
    have h1 := List.findIdx_getElem (w := hlt)
    have h2 : high < b[plA b high] := by
      have h3 := h1
      simp only [decide_eq_true_eq] at h3
      exact h3
    rcases Nat.lt_or_eq_of_le hp with k | k
    · exact lt_tr h2 (up_get h hlt hi k)
    · have : b[plA b high] = b[i] := by congr 1
      rw [← this]; exact h2
  · intro hl
    rcases Nat.lt_or_ge i (plA b high) with k | k
    · have := List.not_of_lt_findIdx k
      have h2 : ¬ high < b[i] := by simpa using this
      exact absurd hl h2
    · exact k
end Go.Proofs.YtmiboibadccceaaGreat.T
/- The walk of hypostyleref.ManyTexts; texts that fit. -/
namespace Go.Proofs.YtmiboibadccceaaGreat
open Go.RowKit
set_option linter.unusedVariables false

theorem idx_step (p : List UInt8 → Bool) (l : List (List UInt8)) (j : Nat) (h : j < l.length) : (l.drop j).findIdx p = if p (l.getD j []) then 0 else (l.drop (j + 1)).findIdx p + 1 := by
  rw [List.drop_eq_getElem_cons h, List.findIdx_cons]
  have e : l.getD j [] = l[j] := by simp [List.getD, List.getElem?_eq_getElem h]
  rw [e]
  cases p l[j] <;> rfl

/-- longer than a text may be -/
def long (x : List UInt8) : Bool := decide (16 < x.length)
/-- may these be the texts of a list? -/
def fitR (l : List (List UInt8)) : Nat := if 64 < l.length ∨ l.findIdx long < l.length then 2 else 0
/-- so far none is too long -/
def Fits (l : List (List UInt8)) (k : Nat) : Prop := ∀ i, i < k → (l.getD i []).length ≤ 16
theorem Fits.succ {l : List (List UInt8)} {k : Nat} (h : Fits l k) (hk : (l.getD k []).length ≤ 16) : Fits l (k + 1) := by
  intro i hi
  by_cases e : i = k
  · rw [e]; exact hk
  · exact h i (by omega)
theorem Fits.all {l : List (List UInt8)} (h : Fits l l.length) : fitR l = if 64 < l.length then 2 else 0 := by
  unfold fitR
  have : ¬ l.findIdx long < l.length := fun hh => by
    have h3 := List.findIdx_getElem (w := hh)
    have h4 := h _ hh
    simp only [List.getD, List.getElem?_eq_getElem hh, Option.getD_some] at h4
    simp [long] at h3
    omega
  simp [this]
theorem fit_long {l : List (List UInt8)} {k : Nat} (hk : k < l.length) (h : 16 < (l.getD k []).length) : fitR l = 2 := by
  unfold fitR
  rw [if_pos]
  refine Or.inr (List.findIdx_lt_length_of_exists ⟨l.getD k [], tgetD_mem l k hk, by simpa [long] using h⟩)

set_option maxHeartbeats 1000000 in
set_option maxRecDepth 100000 in
theorem many_any (a : Option Addr) (c : Nat) (l : List (List UInt8)) (w : World) (hm : l.length ≤ maxLen) (hu : Txts w w.heap.size a l) :
    Calls Tryz.prog 19 #[.slice a l.length c] w fun e w' => e = .returned (.bool (decide (fitR l ≠ 0))) ∧ w = w' := by
  unfold maxLen at hm
  have HU := Lib.hid hu
  have HFA := Lib.hid (fun (h : Fits l l.length) => h.all)
  have HFL := Lib.hid (fun k hk h => fit_long (l := l) (k := k) hk h)
  generalize fitR l = R at *
  clear hu
  go_enter Tryz.func19, Tryz.ntmps19
  go_wp2_with fail
  go_loop [3] (fun i => ∃ k : Nat, k ≤ l.length ∧ i = .int .i64 k ∧ Hid (Fits l k)) (fun i => l.length - (intOf i).toNat)
  case atStart => exact ⟨0, by omega, rfl, Lib.hid (fun i hi => absurd hi (by omega))⟩
  case round =>
    obtain ⟨k, hk, rfl, HF⟩ := hrel
    by_cases hlt : k < l.length
    · obtain ⟨b, off, rfl, hb, hcc⟩ := HU.out (fun e => by rw [e] at hlt; simp at hlt)
      have ck := hcc k hlt
      have HSU := Lib.hid (fun h => HF.out.succ h)
      have HLG := Lib.hid (fun h => HFL.out k hlt h)
      have hs := str_size (l.getD k [])
      generalize l.getD k [] = x at *
      generalize str x = X at *
      have hkI : (k : Int) < (l.length : Int) := by omega
      clear hcc
      by_cases hlo : 16 < X.size
      · have g1 : decide ((16 : Int) < (X.size : Int)) = true := decide_eq_true (by omega)
        have HR := Lib.hid (HLG.out (by omega))
        clear hs hlo
        go_wp2_with fail
        go_ret
        exact ⟨by rw [HR.out]; rfl, rfl⟩
      · have g1 : decide ((16 : Int) < (X.size : Int)) = false := decide_eq_false (by omega)
        have HN := Lib.hid (HSU.out (by omega))
        clear hs hlo
        go_wp2_with fail
        exact ⟨⟨k + 1, by omega, by go_num, HN⟩, by simp [intOf]; omega⟩
    · obtain rfl : k = l.length := by omega
      have HE := Lib.hid (HFA.out HF.out)
      go_wp2_with fail
      go_ret
      refine ⟨?_, rfl⟩
      rw [HE.out]
      by_cases h : 64 < l.length
      · simp [h]; omega
      · simp [h]; omega
end Go.Proofs.YtmiboibadccceaaGreat
/- The walks of dict.first with each of its functions; of dict.fit. -/
namespace Go.Proofs.YtmiboibadccceaaGreat
open Go.RowKit
set_option linter.unusedVariables false

theorem str_eta (s : ByteArray) : str s.data.toList = s := by simp [str]
def atl (s x : List UInt8) : Bool := !decide (x < s)
def abv (s x : List UInt8) : Bool := decide (s < x)
theorem less_or (a b : List UInt8) : (Op.bytesLess (str a).toList (str b).toList || (str a).toList == (str b).toList) = !decide (b < a) := by
  rw [less_eq, str_toList, str_toList]
  by_cases h : b < a
  · have h1 : ¬ a < b := fun h2 => T.lt_irr a (T.lt_tr h2 h)
    have h2 : ¬ a = b := fun e => by rw [e] at h; exact T.lt_irr b h
    simp [h, h1, h2]
  · rcases T.tri a b with h1 | h1 | h1
    · simp [h, h1]
    · subst h1; simp [T.lt_irr]
    · exact absurd h1 h

set_option maxHeartbeats 400000 in
theorem longc_any (x : List UInt8) (w : World) :
    Calls Tryz.prog 122 #[.string (str x)] w fun e w' => e = .returned (.bool (long x)) ∧ w = w' := by
  have hs := str_size x
  have HL := Lib.hid (show long x = decide (16 < (str x).size) by rw [hs]; rfl)
  generalize str x = s at *
  clear hs
  go_enter Tryz.func122, Tryz.ntmps122
  go_wp2_with fail
  go_ret
  exact ⟨by rw [HL.out]; simp; omega, rfl⟩

set_option maxHeartbeats 400000 in
theorem findc_any (C : Nat) (s x : List UInt8) (w : World) (hB : Boxed w C 9 (.string (str s))) :
    Calls Tryz.prog 126 #[.string (str x), .pointer (some ⟨C, 0, none⟩)] w fun e w' => e = .returned (.bool (atl s x)) ∧ w = w' := by
  have c0 := hB.cell
  have HE := Lib.hid (show (!Op.bytesLess (str x).toList (str s).toList) = atl s x by rw [less_eq]; rfl)
  generalize str s = S at *
  generalize str x = X at *
  go_enter Tryz.func126, Tryz.ntmps126
  go_wp2_with fail
  go_ret
  exact ⟨by rw [← HE.out]; rfl, rfl⟩

set_option maxHeartbeats 400000 in
theorem lowc_any (C : Nat) (s x : List UInt8) (w : World) (hB : Boxed w C 9 (.string (str s))) :
    Calls Tryz.prog 127 #[.string (str x), .pointer (some ⟨C, 0, none⟩)] w fun e w' => e = .returned (.bool (atl s x)) ∧ w = w' := by
  have c0 := hB.cell
  have HE := Lib.hid (show (!Op.bytesLess (str x).toList (str s).toList) = atl s x by rw [less_eq]; rfl)
  generalize str s = S at *
  generalize str x = X at *
  go_enter Tryz.func127, Tryz.ntmps127
  go_wp2_with fail
  go_ret
  exact ⟨by rw [← HE.out]; rfl, rfl⟩

set_option maxHeartbeats 400000 in
theorem highc_any (C : Nat) (s x : List UInt8) (w : World) (hB : Boxed w C 9 (.string (str s))) :
    Calls Tryz.prog 128 #[.string (str x), .pointer (some ⟨C, 0, none⟩)] w fun e w' => e = .returned (.bool (abv s x)) ∧ w = w' := by
  have c0 := hB.cell
  have HE := Lib.hid (show (!Op.bytesLess (str x).toList (str s).toList && !((str x).toList == (str s).toList)) = abv s x by rw [← Bool.not_or, less_or, Bool.not_not]; rfl)
  generalize str s = S at *
  generalize str x = X at *
  go_enter Tryz.func128, Tryz.ntmps128
  go_wp2_with fail
  go_ret
  exact ⟨by rw [← HE.out]; rfl, rfl⟩

set_option maxHeartbeats 1000000 in
set_option maxRecDepth 100000 in
theorem first_long (w : World) (a : Option Addr) (c : Nat) (l : List (List UInt8)) (hl : l.length ≤ 64) (hu : Txts w w.heap.size a l) :
    Calls Tryz.prog 121 #[.slice a l.length c, .func (.func 122) #[] #[]] w fun e w' => e = .returned (.int .i64 (l.findIdx long : Nat)) ∧ w = w' := by
  have HU := Lib.hid hu
  have HST := Lib.hid (fun j h => idx_step long l j h)
  have HC := Lib.hid (fun x => show Calls Tryz.prog 122 #[.string (str x)] w (fun e w' => e = .returned (.bool (long x)) ∧ w = w') from longc_any x w)
  generalize hp : long = p at *
  clear hu hp
  generalize hR : l.findIdx p = R
  have HR0 := Lib.hid (show R = 0 + (l.drop 0).findIdx p by rw [← hR]; simp)
  clear hR
  go_enter Tryz.func121, Tryz.ntmps121
  go_wp2_with fail
  go_loop [5, 6, 9] (fun _ _ i => ∃ j : Nat, j ≤ l.length ∧ i = .int .i64 j ∧ Hid (R = j + (l.drop j).findIdx p)) (fun _ _ i => l.length - (intOf i).toNat)
  case atStart => exact ⟨0, by omega, rfl, HR0⟩
  case round =>
    obtain ⟨j, hj, rfl, HJ⟩ := hrel
    by_cases hlt : j < l.length
    · obtain ⟨b, off, rfl, hb, hcc⟩ := HU.out (fun e => by rw [e] at hlt; simp at hlt)
      have cj := hcc j hlt
      have hst := HST.out j hlt
      have HCX := Lib.hid (HC.out (l.getD j []))
      generalize l.getD j [] = x at *
      have hjI : (j : Int) < (l.length : Int) := by omega
      by_cases ho : p x = true
      · rw [ho, if_pos rfl] at hst
        rw [ho] at HCX
        have HRJ := Lib.hid (show R = j by rw [HJ.out, hst, Nat.add_zero])
        clear hcc hst ho
        go_wp2_with fail
        refine (HCX.out).mono ?_
        rintro e w1 ⟨rfl, rfl⟩
        go_wp2_with fail
        go_ret
        exact ⟨by rw [HRJ.out]; rfl, rfl⟩
      · have ho' : p x = false := by simpa using ho
        rw [ho', if_neg (by simp)] at hst
        rw [ho'] at HCX
        have HN := Lib.hid (show R = (j + 1) + (l.drop (j + 1)).findIdx p by rw [HJ.out, hst]; omega)
        clear hcc hst ho ho'
        go_wp2_with fail
        refine (HCX.out).mono ?_
        rintro e w1 ⟨rfl, rfl⟩
        go_wp2_with fail
        exact ⟨⟨j + 1, by omega, by go_num, HN⟩, by simp [intOf]; omega⟩
    · obtain rfl : j = l.length := by omega
      have HRE := Lib.hid (show R = l.length by rw [HJ.out, List.drop_length]; rfl)
      go_wp2_with fail
      go_ret
      exact ⟨by rw [HRE.out]; rfl, rfl⟩

set_option maxHeartbeats 1000000 in
set_option maxRecDepth 100000 in
theorem first_find (C : Nat) (s : List UInt8) (w : World) (hB : Boxed w C 9 (.string (str s))) (a : Option Addr) (c : Nat) (l : List (List UInt8)) (hl : l.length ≤ 64) (hu : Txts w w.heap.size a l) :
    Calls Tryz.prog 121 #[.slice a l.length c, .func (.func 126) #[] #[.pointer (some ⟨C, 0, none⟩)]] w fun e w' => e = .returned (.int .i64 (l.findIdx (atl s) : Nat)) ∧ w = w' := by
  have HU := Lib.hid hu
  have HST := Lib.hid (fun j h => idx_step (atl s) l j h)
  have HC := Lib.hid (fun x => show Calls Tryz.prog 126 #[.string (str x), .pointer (some ⟨C, 0, none⟩)] w (fun e w' => e = .returned (.bool ((atl s) x)) ∧ w = w') from findc_any C s x w hB)
  generalize hp : (atl s) = p at *
  clear hu hp
  generalize hR : l.findIdx p = R
  have HR0 := Lib.hid (show R = 0 + (l.drop 0).findIdx p by rw [← hR]; simp)
  clear hR
  go_enter Tryz.func121, Tryz.ntmps121
  go_wp2_with fail
  go_loop [5, 6, 9] (fun _ _ i => ∃ j : Nat, j ≤ l.length ∧ i = .int .i64 j ∧ Hid (R = j + (l.drop j).findIdx p)) (fun _ _ i => l.length - (intOf i).toNat)
  case atStart => exact ⟨0, by omega, rfl, HR0⟩
  case round =>
    obtain ⟨j, hj, rfl, HJ⟩ := hrel
    by_cases hlt : j < l.length
    · obtain ⟨b, off, rfl, hb, hcc⟩ := HU.out (fun e => by rw [e] at hlt; simp at hlt)
      have cj := hcc j hlt
      have hst := HST.out j hlt
      have HCX := Lib.hid (HC.out (l.getD j []))
      generalize l.getD j [] = x at *
      have hjI : (j : Int) < (l.length : Int) := by omega
      by_cases ho : p x = true
      · rw [ho, if_pos rfl] at hst
        rw [ho] at HCX
        have HRJ := Lib.hid (show R = j by rw [HJ.out, hst, Nat.add_zero])
        clear hcc hst ho
        go_wp2_with fail
        refine (HCX.out).mono ?_
        rintro e w1 ⟨rfl, rfl⟩
        go_wp2_with fail
        go_ret
        exact ⟨by rw [HRJ.out]; rfl, rfl⟩
      · have ho' : p x = false := by simpa using ho
        rw [ho', if_neg (by simp)] at hst
        rw [ho'] at HCX
        have HN := Lib.hid (show R = (j + 1) + (l.drop (j + 1)).findIdx p by rw [HJ.out, hst]; omega)
        clear hcc hst ho ho'
        go_wp2_with fail
        refine (HCX.out).mono ?_
        rintro e w1 ⟨rfl, rfl⟩
        go_wp2_with fail
        exact ⟨⟨j + 1, by omega, by go_num, HN⟩, by simp [intOf]; omega⟩
    · obtain rfl : j = l.length := by omega
      have HRE := Lib.hid (show R = l.length by rw [HJ.out, List.drop_length]; rfl)
      go_wp2_with fail
      go_ret
      exact ⟨by rw [HRE.out]; rfl, rfl⟩

set_option maxHeartbeats 1000000 in
set_option maxRecDepth 100000 in
theorem first_low (C : Nat) (s : List UInt8) (w : World) (hB : Boxed w C 9 (.string (str s))) (a : Option Addr) (c : Nat) (l : List (List UInt8)) (hl : l.length ≤ 64) (hu : Txts w w.heap.size a l) :
    Calls Tryz.prog 121 #[.slice a l.length c, .func (.func 127) #[] #[.pointer (some ⟨C, 0, none⟩)]] w fun e w' => e = .returned (.int .i64 (l.findIdx (atl s) : Nat)) ∧ w = w' := by
  have HU := Lib.hid hu
  have HST := Lib.hid (fun j h => idx_step (atl s) l j h)
  have HC := Lib.hid (fun x => show Calls Tryz.prog 127 #[.string (str x), .pointer (some ⟨C, 0, none⟩)] w (fun e w' => e = .returned (.bool ((atl s) x)) ∧ w = w') from lowc_any C s x w hB)
  generalize hp : (atl s) = p at *
  clear hu hp
  generalize hR : l.findIdx p = R
  have HR0 := Lib.hid (show R = 0 + (l.drop 0).findIdx p by rw [← hR]; simp)
  clear hR
  go_enter Tryz.func121, Tryz.ntmps121
  go_wp2_with fail
  go_loop [5, 6, 9] (fun _ _ i => ∃ j : Nat, j ≤ l.length ∧ i = .int .i64 j ∧ Hid (R = j + (l.drop j).findIdx p)) (fun _ _ i => l.length - (intOf i).toNat)
  case atStart => exact ⟨0, by omega, rfl, HR0⟩
  case round =>
    obtain ⟨j, hj, rfl, HJ⟩ := hrel
    by_cases hlt : j < l.length
    · obtain ⟨b, off, rfl, hb, hcc⟩ := HU.out (fun e => by rw [e] at hlt; simp at hlt)
      have cj := hcc j hlt
      have hst := HST.out j hlt
      have HCX := Lib.hid (HC.out (l.getD j []))
      generalize l.getD j [] = x at *
      have hjI : (j : Int) < (l.length : Int) := by omega
      by_cases ho : p x = true
      · rw [ho, if_pos rfl] at hst
        rw [ho] at HCX
        have HRJ := Lib.hid (show R = j by rw [HJ.out, hst, Nat.add_zero])
        clear hcc hst ho
        go_wp2_with fail
        refine (HCX.out).mono ?_
        rintro e w1 ⟨rfl, rfl⟩
        go_wp2_with fail
        go_ret
        exact ⟨by rw [HRJ.out]; rfl, rfl⟩
      · have ho' : p x = false := by simpa using ho
        rw [ho', if_neg (by simp)] at hst
        rw [ho'] at HCX
        have HN := Lib.hid (show R = (j + 1) + (l.drop (j + 1)).findIdx p by rw [HJ.out, hst]; omega)
        clear hcc hst ho ho'
        go_wp2_with fail
        refine (HCX.out).mono ?_
        rintro e w1 ⟨rfl, rfl⟩
        go_wp2_with fail
        exact ⟨⟨j + 1, by omega, by go_num, HN⟩, by simp [intOf]; omega⟩
    · obtain rfl : j = l.length := by omega
      have HRE := Lib.hid (show R = l.length by rw [HJ.out, List.drop_length]; rfl)
      go_wp2_with fail
      go_ret
      exact ⟨by rw [HRE.out]; rfl, rfl⟩

set_option maxHeartbeats 1000000 in
set_option maxRecDepth 100000 in
theorem first_high (C : Nat) (s : List UInt8) (w : World) (hB : Boxed w C 9 (.string (str s))) (a : Option Addr) (c : Nat) (l : List (List UInt8)) (hl : l.length ≤ 64) (hu : Txts w w.heap.size a l) :
    Calls Tryz.prog 121 #[.slice a l.length c, .func (.func 128) #[] #[.pointer (some ⟨C, 0, none⟩)]] w fun e w' => e = .returned (.int .i64 (l.findIdx (abv s) : Nat)) ∧ w = w' := by
  have HU := Lib.hid hu
  have HST := Lib.hid (fun j h => idx_step (abv s) l j h)
  have HC := Lib.hid (fun x => show Calls Tryz.prog 128 #[.string (str x), .pointer (some ⟨C, 0, none⟩)] w (fun e w' => e = .returned (.bool ((abv s) x)) ∧ w = w') from highc_any C s x w hB)
  generalize hp : (abv s) = p at *
  clear hu hp
  generalize hR : l.findIdx p = R
  have HR0 := Lib.hid (show R = 0 + (l.drop 0).findIdx p by rw [← hR]; simp)
  clear hR
  go_enter Tryz.func121, Tryz.ntmps121
  go_wp2_with fail
  go_loop [5, 6, 9] (fun _ _ i => ∃ j : Nat, j ≤ l.length ∧ i = .int .i64 j ∧ Hid (R = j + (l.drop j).findIdx p)) (fun _ _ i => l.length - (intOf i).toNat)
  case atStart => exact ⟨0, by omega, rfl, HR0⟩
  case round =>
    obtain ⟨j, hj, rfl, HJ⟩ := hrel
    by_cases hlt : j < l.length
    · obtain ⟨b, off, rfl, hb, hcc⟩ := HU.out (fun e => by rw [e] at hlt; simp at hlt)
      have cj := hcc j hlt
      have hst := HST.out j hlt
      have HCX := Lib.hid (HC.out (l.getD j []))
      generalize l.getD j [] = x at *
      have hjI : (j : Int) < (l.length : Int) := by omega
      by_cases ho : p x = true
      · rw [ho, if_pos rfl] at hst
        rw [ho] at HCX
        have HRJ := Lib.hid (show R = j by rw [HJ.out, hst, Nat.add_zero])
        clear hcc hst ho
        go_wp2_with fail
        refine (HCX.out).mono ?_
        rintro e w1 ⟨rfl, rfl⟩
        go_wp2_with fail
        go_ret
        exact ⟨by rw [HRJ.out]; rfl, rfl⟩
      · have ho' : p x = false := by simpa using ho
        rw [ho', if_neg (by simp)] at hst
        rw [ho'] at HCX
        have HN := Lib.hid (show R = (j + 1) + (l.drop (j + 1)).findIdx p by rw [HJ.out, hst]; omega)
        clear hcc hst ho ho'
        go_wp2_with fail
        refine (HCX.out).mono ?_
        rintro e w1 ⟨rfl, rfl⟩
        go_wp2_with fail
        exact ⟨⟨j + 1, by omega, by go_num, HN⟩, by simp [intOf]; omega⟩
    · obtain rfl : j = l.length := by omega
      have HRE := Lib.hid (show R = l.length by rw [HJ.out, List.drop_length]; rfl)
      go_wp2_with fail
      go_ret
      exact ⟨by rw [HRE.out]; rfl, rfl⟩

set_option maxHeartbeats 400000 in
theorem fit_any (a : Option Addr) (c : Nat) (l : List (List UInt8)) (w : World) (hu : Txts w w.heap.size a l) :
    Calls Tryz.prog 77 #[.slice a l.length c] w fun e w' => e = .returned (.int .i64 (fitR l : Nat)) ∧ w = w' := by
  by_cases h : 64 < l.length
  · have HR := Lib.hid (show fitR l = 2 by unfold fitR; rw [if_pos (Or.inl h)])
    have g1 : decide ((64 : Int) < (l.length : Int)) = true := decide_eq_true (by omega)
    go_enter Tryz.func77, Tryz.ntmps77
    go_wp2_with fail
    go_ret
    exact ⟨by rw [HR.out]; rfl, rfl⟩
  · have g1 : decide ((64 : Int) < (l.length : Int)) = false := decide_eq_false (by omega)
    have HF := Lib.hid (first_long w a c l (by omega) hu)
    by_cases h2 : l.findIdx long < l.length
    · have HR := Lib.hid (show fitR l = 2 by unfold fitR; rw [if_pos (Or.inr h2)])
      generalize l.findIdx long = j at *
      have g2 : decide (j < l.length) = true := decide_eq_true h2
      clear h2
      go_enter Tryz.func77, Tryz.ntmps77
      go_wp2_with fail
      refine (HF.out).mono ?_
      rintro e w1 ⟨rfl, rfl⟩
      go_wp2_with fail
      go_ret
      exact ⟨by rw [HR.out]; rfl, rfl⟩
    · have HR := Lib.hid (show fitR l = 0 by unfold fitR; rw [if_neg (by rintro (x | x); exact h x; exact h2 x)])
      generalize l.findIdx long = j at *
      have g2 : decide (j < l.length) = false := decide_eq_false h2
      clear h2
      go_enter Tryz.func77, Tryz.ntmps77
      go_wp2_with fail
      refine (HF.out).mono ?_
      rintro e w1 ⟨rfl, rfl⟩
      go_wp2_with fail
      go_ret
      exact ⟨by rw [HR.out]; rfl, rfl⟩
end Go.Proofs.YtmiboibadccceaaGreat
/- The walks of dict.Check, Find, Span. -/
namespace Go.Proofs.YtmiboibadccceaaGreat
open Go.RowKit
set_option linter.unusedVariables false

/-- each is above the one before -/
def rise : List (List UInt8) → Bool
  | [] => true
  | [_] => true
  | x :: y :: t => decide (x < y) && rise (y :: t)
theorem rise_up : ∀ b : List (List UInt8), rise b = true ↔ T.Up b := by
  intro b
  induction b with
  | nil => exact ⟨fun _ => List.Pairwise.nil, fun _ => rfl⟩
  | cons x t ih =>
    cases t with
    | nil => exact ⟨fun _ => by unfold T.Up; simp, fun _ => rfl⟩
    | cons y t =>
      unfold rise T.Up
      rw [Bool.and_eq_true, decide_eq_true_iff, ih]
      constructor
      · rintro ⟨h1, h2⟩
        refine List.pairwise_cons.2 ⟨fun z hz => ?_, h2⟩
        rcases List.mem_cons.1 hz with rfl | hz
        · exact h1
        · exact T.lt_tr h1 ((List.pairwise_cons.1 h2).1 z hz)
      · intro h
        obtain ⟨h1, h2⟩ := List.pairwise_cons.1 h
        exact ⟨h1 y (by simp), h2⟩
/-- so far each is above the one before -/
def Rise (b : List (List UInt8)) (k : Nat) : Prop := ∀ i, i + 1 < k → b.getD i [] < b.getD (i + 1) []
theorem Rise.all {b : List (List UInt8)} (h : Rise b b.length) : rise b = true := by
  rw [rise_up]
  refine List.pairwise_iff_getElem.2 ?_
  intro i j hi hj hij
  have step : ∀ k (hk : i + k + 1 < b.length), b[i] < b[i + k + 1] := by
    intro k
    induction k with
    | zero =>
      intro hk
      have := h i (by omega)
      simpa [List.getD, List.getElem?_eq_getElem hi, List.getElem?_eq_getElem (show i + 1 < b.length by omega)] using this
    | succ k ih =>
      intro hk
      have h1 := ih (by omega)
      have := h (i + k + 1) (by omega)
      have h2 : b[i + k + 1] < b[i + k + 1 + 1] := by
        simpa [List.getD, List.getElem?_eq_getElem (show i + k + 1 < b.length by omega), List.getElem?_eq_getElem (show i + k + 1 + 1 < b.length by omega)] using this
      exact T.lt_tr h1 h2
  have := step (j - i - 1) (by omega)
  have e : i + (j - i - 1) + 1 = j := by omega
  simpa [e] using this
theorem rise_bad {b : List (List UInt8)} {i : Nat} (hi : i + 1 < b.length) (h : ¬ b.getD i [] < b.getD (i + 1) []) : rise b = false := by
  rw [← Bool.not_eq_true]
  intro hr
  have := T.up_get ((rise_up b).1 hr) (i := i) (j := i + 1) (by omega) hi (by omega)
  apply h
  simpa [List.getD, List.getElem?_eq_getElem hi, List.getElem?_eq_getElem (show i < b.length by omega)] using this
theorem Rise.succ {b : List (List UInt8)} {k : Nat} (h : Rise b k) (hk : 1 ≤ k) (hl : b.getD (k - 1) [] < b.getD k []) : Rise b (k + 1) := by
  intro i hi
  by_cases e : i + 1 = k
  · subst e; simpa using hl
  · exact h i (by omega)

/-- is this a book? -/
def bookR (b : List (List UInt8)) : Nat := if fitR b ≠ 0 then fitR b else if rise b then 0 else 4

set_option maxHeartbeats 1000000 in
set_option maxRecDepth 100000 in
theorem dcheck_any (a : Option Addr) (c : Nat) (l : List (List UInt8)) (w : World) (hu : Txts w w.heap.size a l) :
    Calls Tryz.prog 82 #[.slice a l.length c] w fun e w' => e = .returned (.int .i64 (bookR l : Nat)) ∧ Below w.heap.size w w' := by
  have HF := Lib.hid (fit_any a c l w hu)
  have HU := Lib.hid hu
  have h64 : fitR l = 0 → l.length ≤ 64 := fun h => by
    unfold fitR at h
    rcases Classical.em (64 < l.length ∨ l.findIdx long < l.length) with hh | hh
    · rw [if_pos hh] at h; exact absurd h (by decide)
    · rcases Nat.lt_or_ge 64 l.length with k | k
      · exact absurd (Or.inl k) hh
      · exact k
  by_cases hf : fitR l ≠ 0
  · have HR := Lib.hid (show bookR l = fitR l by unfold bookR; rw [if_pos hf])
    generalize fitR l = er at *
    have g1 : ((er : Int) != 0) = true := by rw [bne_iff_ne]; omega
    clear h64 hu
    go_enter Tryz.func82, Tryz.ntmps82
    go_wp2_with fail
    refine (HF.out).mono ?_
    rintro e w1 ⟨rfl, rfl⟩
    go_wp2_with fail
    go_ret
    exact ⟨by rw [HR.out]; rfl, Below.refl _ _⟩
  have hf0 : fitR l = 0 := by omega
  have hl := h64 hf0
  have HRB := Lib.hid (show bookR l = if rise l then 0 else 4 by unfold bookR; rw [if_neg hf])
  rw [hf0] at HF
  clear h64 hf hf0 hu
  go_enter Tryz.func82, Tryz.ntmps82
  go_wp2_with fail
  refine (HF.out).mono ?_
  rintro e w1 ⟨rfl, rfl⟩
  go_wp2_with fail
  go_loopw [4] (fun i wr => ∃ k d : Nat, 1 ≤ k ∧ (k ≤ l.length ∨ k = 1) ∧ i = .int .i64 k ∧ Hid (Rise l k) ∧ wr = w.drewN d) (fun i _ => l.length + 1 - (intOf i).toNat)
  case atStart => exact ⟨1, 0, by omega, Or.inr rfl, rfl, Lib.hid (fun i hi => absurd hi (by omega)), rfl⟩
  case round =>
    obtain ⟨k, d, hk1, hk, rfl, HRI, rfl⟩ := hrel
    by_cases hlt : k < l.length
    · obtain ⟨b, off, rfl, hb, hcc⟩ := HU.out (fun e => by rw [e] at hlt; simp at hlt)
      have ck := hcc k hlt
      have cp := hcc (k - 1) (by omega)
      have HSU := Lib.hid (fun h => HRI.out.succ hk1 h)
      have HBD := Lib.hid (fun h => rise_bad (b := l) (i := k - 1) (by omega) h)
      rw [show k - 1 + 1 = k by omega] at HBD
      have hlo := less_or (l.getD k []) (l.getD (k - 1) [])
      generalize l.getD k [] = x at *
      generalize l.getD (k - 1) [] = y at *
      generalize str x = X at *
      generalize str y = Y at *
      have hi1 : IntKind.i64.wrap ((k : Int) - 1) = (k : Int) - 1 := by rw [IntKind.wrap_i64]; omega
      have hi2 : (0 : Int) ≤ (k : Int) - 1 := by omega
      have hi3 : ((k : Int) - 1).toNat = k - 1 := by omega
      have hi4 : (k : Int) - 1 < (l.length : Int) := by omega
      have hi5 : (k : Int) < (l.length : Int) := by omega
      have hi6 : (1 : Int) ≤ (k : Int) := by omega
      clear hcc
      by_cases hxy : y < x
      · rw [show (!decide (y < x)) = false by simp [hxy]] at hlo
        have HN := Lib.hid (HSU.out hxy)
        clear hxy
        go_wp2_with fail
        go_quiet (fail)
        go_wp2_with fail
        exact ⟨⟨k + 1, d + nq, by omega, Or.inl (by omega), by go_num, HN, rfl⟩, by simp [intOf]; omega⟩
      · rw [show (!decide (y < x)) = true by simp [hxy]] at hlo
        have HB4 := Lib.hid (show bookR l = 4 by rw [HRB.out, HBD.out hxy, if_neg (by simp)])
        clear hxy
        go_wp2_with fail
        go_quiet (fail)
        go_wp2_with fail
        go_ret
        exact ⟨by rw [HB4.out]; rfl, below_drewN (below_drewN (Below.refl _ _) _) _⟩
    · have HB0 := Lib.hid (show bookR l = 0 by
        rw [HRB.out, if_pos]
        refine Rise.all ?_
        rcases hk with h | h
        · have e : k = l.length := by omega
          rw [← e]; exact HRI.out
        · intro i hi; omega)
      have hge : l.length ≤ k := by omega
      clear hk
      go_wp2_with fail
      go_ret
      exact ⟨by rw [HB0.out]; rfl, below_drewN (Below.refl _ _) _⟩
theorem bookR_len {b : List (List UInt8)} (h : bookR b = 0) : b.length ≤ 64 ∧ T.Up b := by
  unfold bookR at h
  by_cases hf : fitR b ≠ 0
  · rw [if_pos hf] at h; exact absurd h hf
  rw [if_neg hf] at h
  constructor
  · unfold fitR at hf
    rcases Classical.em (64 < b.length ∨ b.findIdx long < b.length) with hh | hh
    · rw [if_pos hh] at hf; exact absurd (by decide) hf
    · rcases Nat.lt_or_ge 64 b.length with k | k
      · exact absurd (Or.inl k) hh
      · exact k
  · rw [← rise_up]
    cases hr : rise b with
    | true => rfl
    | false => rw [hr] at h; simp at h
end Go.Proofs.YtmiboibadccceaaGreat
/- The walks of dict.Texts, Find, Span. -/
namespace Go.Proofs.YtmiboibadccceaaGreat
open Go.RowKit
set_option linter.unusedVariables false

/-- what Find answers -/
def findR (b : List (List UInt8)) (s : List UInt8) : Nat × Bool × Nat :=
  if bookR b ≠ 0 then (0, false, bookR b) else (T.plc b s, decide (T.plc b s < b.length) && decide (b.getD (T.plc b s) [] = s), 0)
def spanR (b : List (List UInt8)) (low high : List UInt8) : Nat × Nat × Nat :=
  if bookR b ≠ 0 then (0, 0, bookR b) else (T.plc b low, max (T.plc b low) (T.plA b high), 0)

set_option maxHeartbeats 1000000 in
set_option maxRecDepth 100000 in
theorem dfind_any (a : Option Addr) (c : Nat) (l : List (List UInt8)) (s : List UInt8) (w : World) (hu : Txts w w.heap.size a l) :
    Calls Tryz.prog 80 #[.slice a l.length c, .string (str s)] w fun e w' => e = .returned (.tuple #[.int .i64 (findR l s).1, .bool (findR l s).2.1, .int .i64 (findR l s).2.2]) ∧ Below w.heap.size w w' := by
  have hmf : ∀ (fn : Fn) (first cap : Array Value) (w : World), (Instr.makeFunc fn first cap).run Tryz.prog w = .ok (.func fn first cap) w := fun _ _ _ _ => rfl
  have hb0 : Below w.heap.size w (w.alloc (.cells #[.string (str s)] 9)) := (Below.refl _ _).alloc (Nat.le_refl _) _
  have HB0 := Lib.hid hb0
  have HU1 := Lib.hid (hu.next hb0)
  have HCK := Lib.hid (dcheck_any a c l (w.alloc (.cells #[.string (str s)] 9)) (hu.next hb0))
  have HBX : Boxed (w.alloc (.cells #[.string (str s)] 9)) w.heap.size 9 (.string (str s)) := heap_alloc_new w _
  have HBX := Lib.hid HBX
  clear hb0 hu
  by_cases hr : bookR l ≠ 0
  · have HR := Lib.hid (show findR l s = (0, false, bookR l) by unfold findR; rw [if_pos hr])
    generalize bookR l = er at *
    have g1 : ((er : Int) != 0) = true := by rw [bne_iff_ne]; omega
    go_enter Tryz.func80, Tryz.ntmps80
    go_wp2_with fail
    refine (HCK.out).mono ?_
    rintro e w1 ⟨rfl, hb1⟩
    go_wp2_with fail
    go_ret3
    exact ⟨by rw [HR.out]; rfl, below_then HB0.out hb1⟩
  have hr0 : bookR l = 0 := by omega
  have hl := (bookR_len hr0).1
  have HR := Lib.hid (show findR l s = (T.plc l s, decide (T.plc l s < l.length) && decide (l.getD (T.plc l s) [] = s), 0) by unfold findR; rw [if_neg hr])
  rw [hr0] at HCK
  have HFF := Lib.hid (fun W hB h => first_find w.heap.size s W hB a c l hl h)
  have HPI := Lib.hid (show l.findIdx (atl s) = T.plc l s from rfl)
  have hpl := T.plc_le l s
  rw [HPI.out] at HFF
  generalize T.plc l s = p at *
  clear hr hr0
  by_cases hp : p < l.length
  · have g1 : decide (p < l.length) = true := decide_eq_true hp
    have hpI : (p : Int) < (l.length : Int) := by omega
    obtain ⟨b, off, rfl, hb, hcc⟩ := HU1.out (fun e => by rw [e] at hp; simp at hp)
    have cp := hcc p hp
    have HTE := Lib.hid (tl_eq (l.getD p []) s)
    generalize l.getD p [] = x at *
    clear hcc
    have hte := HTE.out
    generalize str x = X at *
    generalize str s = S at *
    generalize decide (x = s) = bb at *
    have HRR := Lib.hid (show findR l s = (p, bb, 0) by rw [HR.out, g1]; rfl)
    clear HTE
    cases bb
    all_goals
      go_enter Tryz.func80, Tryz.ntmps80
      go_wp2_with fail
      refine (HCK.out).mono ?_
      rintro e w1 ⟨rfl, hb1⟩
      have hbx1 : Boxed w1 w.heap.size 9 (.string S) := (hb1.block w.heap.size (by simp)).trans HBX.out
      have c1 := hbx1.cell
      have cp1 := (hb1.cell (p := ⟨b, off + p, none⟩) hb).trans cp
      have HBX1 := Lib.hid hbx1
      have HU2 := Lib.hid (HU1.out.next hb1)
      clear hbx1
      go_wp2_with fail
      refine (HFF.out w1 HBX1.out HU2.out).mono ?_
      rintro e w2 ⟨rfl, rfl⟩
      go_wp2_with fail
      go_quiet (fail)
      go_wp2_with fail
      go_ret3
      exact ⟨by rw [HRR.out]; rfl, below_drewN (below_then HB0.out hb1) _⟩
  · have g1 : decide (p < l.length) = false := decide_eq_false hp
    have HRR := Lib.hid (show findR l s = (p, false, 0) by rw [HR.out, g1]; rfl)
    go_enter Tryz.func80, Tryz.ntmps80
    go_wp2_with fail
    refine (HCK.out).mono ?_
    rintro e w1 ⟨rfl, hb1⟩
    have HBX1 := Lib.hid (show Boxed w1 w.heap.size 9 (.string (str s)) from (hb1.block w.heap.size (by simp)).trans HBX.out)
    have HU2 := Lib.hid (HU1.out.next hb1)
    go_wp2_with fail
    refine (HFF.out w1 HBX1.out HU2.out).mono ?_
    rintro e w2 ⟨rfl, rfl⟩
    go_wp2_with fail
    go_quiet (fail)
    go_wp2_with fail
    go_ret3
    exact ⟨by rw [HRR.out]; rfl, below_drewN (below_then HB0.out hb1) _⟩

set_option maxHeartbeats 1000000 in
set_option maxRecDepth 100000 in
theorem dspan_any (a : Option Addr) (c : Nat) (l : List (List UInt8)) (s t : List UInt8) (w : World) (hu : Txts w w.heap.size a l) :
    Calls Tryz.prog 81 #[.slice a l.length c, .string (str s), .string (str t)] w fun e w' => e = .returned (.tuple #[.int .i64 (spanR l s t).1, .int .i64 (spanR l s t).2.1, .int .i64 (spanR l s t).2.2]) ∧ Below w.heap.size w w' := by
  have hmf : ∀ (fn : Fn) (first cap : Array Value) (w : World), (Instr.makeFunc fn first cap).run Tryz.prog w = .ok (.func fn first cap) w := fun _ _ _ _ => rfl
  obtain ⟨w0, hw0⟩ : ∃ w0, w0 = w.alloc (.cells #[.string (str s)] 9) := ⟨_, rfl⟩
  obtain ⟨w00, hw00⟩ : ∃ w00, w00 = w0.alloc (.cells #[.string (str t)] 9) := ⟨_, rfl⟩
  have hb0 : Below w.heap.size w w00 := by rw [hw00, hw0]; exact ((Below.refl _ _).alloc (Nat.le_refl _) _).alloc (by simp) _
  have hs0 : w0.heap.size = w.heap.size + 1 := by rw [hw0]; simp
  have hs00 : w00.heap.size = w.heap.size + 2 := by rw [hw00]; simp [hs0]
  have hbx0 : Boxed w00 w.heap.size 9 (.string (str s)) := by
    rw [hw00]
    have h1 : Boxed w0 w.heap.size 9 (.string (str s)) := by rw [hw0]; exact heap_alloc_new w _
    exact (Below.heap_alloc w0 _ _ (by omega)).trans h1
  have hbx1 : Boxed w00 (w.heap.size + 1) 9 (.string (str t)) := by
    rw [hw00, ← hs0]; exact heap_alloc_new w0 _
  have HB0 := Lib.hid hb0
  have HU1 := Lib.hid (hu.next hb0)
  have HBX0 := Lib.hid hbx0
  have HBX1 := Lib.hid hbx1
  have HCK := Lib.hid (dcheck_any a c l w00 (hu.next hb0))
  have HW := Lib.hid (show (w.alloc (.cells #[.string (str s)] 9)).alloc (.cells #[.string (str t)] 9) = w00 by rw [hw00, hw0])
  have HS := Lib.hid hs00
  clear hb0 hu hw0 hw00 hs0 hs00 hbx0 hbx1
  by_cases hr : bookR l ≠ 0
  · have HR := Lib.hid (show spanR l s t = (0, 0, bookR l) by unfold spanR; rw [if_pos hr])
    generalize bookR l = er at *
    have g1 : ((er : Int) != 0) = true := by rw [bne_iff_ne]; omega
    go_enter Tryz.func81, Tryz.ntmps81
    go_wp2_with fail
    rw [HW.out]
    refine (HCK.out).mono ?_
    rintro e w1 ⟨rfl, hb1⟩
    go_wp2_with fail
    go_ret3
    exact ⟨by rw [HR.out]; rfl, below_then HB0.out hb1⟩
  have hr0 : bookR l = 0 := by omega
  have hl := (bookR_len hr0).1
  have HR := Lib.hid (show spanR l s t = (T.plc l s, max (T.plc l s) (T.plA l t), 0) by unfold spanR; rw [if_neg hr])
  rw [hr0] at HCK
  have HFL := Lib.hid (fun W hB h => show Calls Tryz.prog 121 #[.slice a l.length c, .func (.func 127) #[] #[.pointer (some ⟨w.heap.size, 0, none⟩)]] W (fun e w' => e = .returned (.int .i64 (T.plc l s : Nat)) ∧ W = w') from first_low w.heap.size s W hB a c l hl h)
  have HFH := Lib.hid (fun W hB h => show Calls Tryz.prog 121 #[.slice a l.length c, .func (.func 128) #[] #[.pointer (some ⟨w.heap.size + 1, 0, none⟩)]] W (fun e w' => e = .returned (.int .i64 (T.plA l t : Nat)) ∧ W = w') from first_high (w.heap.size + 1) t W hB a c l hl h)
  have hpl := T.plc_le l s
  have hpa := T.plA_le l t
  generalize T.plc l s = p at *
  generalize T.plA l t = q at *
  clear hr hr0
  go_enter Tryz.func81, Tryz.ntmps81
  go_wp2_with fail
  rw [HW.out]
  refine (HCK.out).mono ?_
  rintro e w1 ⟨rfl, hb1⟩
  have HX0 := Lib.hid (show Boxed w1 w.heap.size 9 (.string (str s)) from (hb1.block w.heap.size (by have := HS.out; omega)).trans HBX0.out)
  have HX1 := Lib.hid (show Boxed w1 (w.heap.size + 1) 9 (.string (str t)) from (hb1.block (w.heap.size + 1) (by have := HS.out; omega)).trans HBX1.out)
  have HU2 := Lib.hid (HU1.out.next hb1)
  go_wp2_with fail
  refine (HFL.out w1 HX0.out HU2.out).mono ?_
  rintro e w2 ⟨rfl, rfl⟩
  go_wp2_with fail
  refine (HFH.out w1 HX1.out HU2.out).mono ?_
  rintro e w3 ⟨rfl, rfl⟩
  go_wp2_with fail
  go_ret3
  exact ⟨by rw [HR.out]; simp; omega, below_then HB0.out hb1⟩
end Go.Proofs.YtmiboibadccceaaGreat
/- Rows of texts that are made whole and filled; what a list of texts and an error come out as. -/
namespace Go.Proofs.YtmiboibadccceaaGreat
open Go.RowKit
set_option linter.unusedVariables false

def TextsPost (r : List (List UInt8) × Nat) (w : World) (e : Ending) (w' : World) : Prop :=
  ∃ a c, e = .returned (.tuple #[.slice a r.1.length c, .int .i64 r.2]) ∧ Txts w' w'.heap.size a r.1 ∧ Below w.heap.size w w'
theorem TextsPost.none {w w' : World} (er : Nat) (h : Below w.heap.size w w') : TextsPost ([], er) w (.returned (.tuple #[.slice none 0 0, .int .i64 er])) w' :=
  ⟨Option.none, 0, rfl, Txts.nil _ _ _, h⟩

theorem made_trow {w' : World} {g n B' : Nat} (h : w'.ownsRow B' 9 1 (.slice (some ⟨g, 0, none⟩) n n) n (madeCells (Value.string ByteArray.empty).cells (n * 1)).toList) : TRow B' (List.replicate n []) (.slice (some ⟨g, 0, none⟩) n n) w' := by
  unfold TRow
  rw [List.length_replicate]
  have e : tv (List.replicate n []) = (madeCells (Value.string ByteArray.empty).cells (n * 1)).toList := by
    apply List.ext_getElem
    · simp [madeCells, tv]
    · intro i h1 h2
      simp [madeCells, tv, Value.cells, Nat.mod_one]
      rfl
  rw [e]; exact h
theorem TRow.put {B : Nat} {xs : List (List UInt8)} {g n c : Nat} {w : World} (h : TRow B xs (.slice (some ⟨g, 0, none⟩) n c) w) (i : Nat) (x : List UInt8) : TRow B (xs.set i x) (.slice (some ⟨g, 0, none⟩) n c) (w.setCell ⟨g, i, none⟩ (.string (str x))) := by
  obtain ⟨a', c', e, _⟩ := tRow_txts h
  injection e with e1 e2 e3
  subst e2
  unfold TRow at *
  have := (h.stored i (.string (str x))).1
  rw [List.length_set]
  have e : tv (xs.set i x) = (tv xs).set i (.string (str x)) := by simp [tv, List.map_set]
  rw [e]; exact this
theorem TRow.txts {B : Nat} {xs : List (List UInt8)} {a : Option Addr} {n c : Nat} {w : World} (h : TRow B xs (.slice a n c) w) : Txts w w.heap.size a xs ∧ n = xs.length := by
  obtain ⟨a', c', e, hn, _⟩ := tRow_txts h
  injection e with e1 e2 e3
  rw [e1]; exact ⟨hn, e2⟩
end Go.Proofs.YtmiboibadccceaaGreat
/- The library contracts slices.Sort, slices.Clone, slices.Compact over texts at this program, laid by the shelf, in plain declarations. -/
namespace Go.Proofs
open Go.Shelf
def Tryz.lays190_ren : Go.Shelf.Ren := ⟨fun | 190 => 124 | 125 => 157 | 258 => 156 | 128 => 175 | 129 => 155 | 302 => 166 | 303 => 167 | 304 => 168 | 305 => 169 | 306 => 170 | 307 => 171 | 308 => 172 | 309 => 173 | 310 => 174 | 333 => 179 | 329 => 180 | 330 => 181 | 334 => 182 | 335 => 183 | 336 => 184 | 344 => 185 | n => n, fun | 31 => 31 | 9 => 9 | 3 => 3 | 46 => 135 | 0 => 0 | 51 => 154 | 53 => 46 | 4 => 4 | 183 => 147 | 182 => 146 | 131 => 151 | 5 => 5 | 218 => 155 | 222 => 159 | 228 => 162 | 229 => 163 | n => n, fun | n => n⟩
theorem Tryz.lays190 : Go.Proofs.Lays.n190 Tryz.prog Tryz.lays190_ren := {
  mixed := by kernel_rfl
  f125 := Tryz.func157.trans (congrArg some (by kernel_rfl))
  f128 := Tryz.func175.trans (congrArg some (by kernel_rfl))
  f129 := Tryz.func155.trans (congrArg some (by kernel_rfl))
  f190 := Tryz.func124.trans (congrArg some (by kernel_rfl))
  f258 := Tryz.func156.trans (congrArg some (by kernel_rfl))
  f302 := Tryz.func166.trans (congrArg some (by kernel_rfl))
  f303 := Tryz.func167.trans (congrArg some (by kernel_rfl))
  f304 := Tryz.func168.trans (congrArg some (by kernel_rfl))
  f305 := Tryz.func169.trans (congrArg some (by kernel_rfl))
  f306 := Tryz.func170.trans (congrArg some (by kernel_rfl))
  f307 := Tryz.func171.trans (congrArg some (by kernel_rfl))
  f308 := Tryz.func172.trans (congrArg some (by kernel_rfl))
  f309 := Tryz.func173.trans (congrArg some (by kernel_rfl))
  f310 := Tryz.func174.trans (congrArg some (by kernel_rfl))
  f329 := Tryz.func180.trans (congrArg some (by kernel_rfl))
  f330 := Tryz.func181.trans (congrArg some (by kernel_rfl))
  f333 := Tryz.func179.trans (congrArg some (by kernel_rfl))
  f334 := Tryz.func182.trans (congrArg some (by kernel_rfl))
  f335 := Tryz.func183.trans (congrArg some (by kernel_rfl))
  f336 := Tryz.func184.trans (congrArg some (by kernel_rfl))
  f344 := Tryz.func185.trans (congrArg some (by kernel_rfl))
  t0 := Tryz.underlying0
  a0 := Tryz.isAgg0
  z0 := Tryz.sizeOf0
  v0 := Tryz.zeroValue0
  t3 := Tryz.underlying3
  a3 := Tryz.isAgg3
  z3 := Tryz.sizeOf3
  v3 := Tryz.zeroValue3
  t4 := Tryz.underlying4
  a4 := Tryz.isAgg4
  z4 := Tryz.sizeOf4
  v4 := Tryz.zeroValue4
  t5 := Tryz.underlying5
  a5 := Tryz.isAgg5
  z5 := Tryz.sizeOf5
  v5 := Tryz.zeroValue5
  t9 := Tryz.underlying9
  a9 := Tryz.isAgg9
  z9 := Tryz.sizeOf9
  v9 := Tryz.zeroValue9
  t31 := Tryz.underlying31
  a31 := Tryz.isAgg31
  z31 := Tryz.sizeOf31
  v31 := Tryz.zeroValue31
  t46 := Tryz.underlying135
  a46 := Tryz.isAgg135
  z46 := Tryz.sizeOf135
  v46 := Tryz.zeroValue135
  t51 := Tryz.underlying154
  a51 := Tryz.isAgg154
  z51 := Tryz.sizeOf154
  v51 := Tryz.zeroValue154
  t53 := Tryz.underlying46
  a53 := Tryz.isAgg46
  z53 := Tryz.sizeOf46
  v53 := Tryz.zeroValue46
  t131 := Tryz.underlying151
  a131 := Tryz.isAgg151
  z131 := Tryz.sizeOf151
  v131 := Tryz.zeroValue151
  t182 := Tryz.underlying146
  a182 := Tryz.isAgg146
  z182 := Tryz.sizeOf146
  v182 := Tryz.zeroValue146
  t183 := Tryz.underlying147
  a183 := Tryz.isAgg147
  z183 := Tryz.sizeOf147
  v183 := Tryz.zeroValue147
  t218 := Tryz.underlying155
  a218 := Tryz.isAgg155
  z218 := Tryz.sizeOf155
  v218 := Tryz.zeroValue155
  t222 := Tryz.underlying159
  a222 := Tryz.isAgg159
  z222 := Tryz.sizeOf159
  v222 := Tryz.zeroValue159
  t228 := Tryz.underlying162
  a228 := Tryz.isAgg162
  z228 := Tryz.sizeOf162
  v228 := Tryz.zeroValue162
  t229 := Tryz.underlying163
  a229 := Tryz.isAgg163
  z229 := Tryz.sizeOf163
  v229 := Tryz.zeroValue163 }
open Go.Sort Go.RowKit in
theorem Tryz.slices_Sort_string (blk off cap : Nat) (ss : List (List UInt8)) (w : World) (hH : Holds encStr w blk off ss.toArray) (hblk : blk < w.heap.size) (hsz : ss.length < 4611686018427387904) :
    Calls Tryz.prog 124 #[.slice (some ⟨blk, off, none⟩) ss.length cap] w fun e w' =>
      e = .returned (.tuple #[]) ∧ ∃ n os, w' = grow (putRow encStr (Sort.ahead w n) blk off (ss.mergeSort fun x y => decide (x ≤ y)).toArray) os := Any.slices_Sort_string Tryz.lays190 blk off cap ss w hH hblk hsz
def Tryz.laysNm216_ren : Go.Shelf.Ren := ⟨fun | 16 => 123 | n => n, fun | 24 => 31 | 9 => 9 | 4 => 4 | n => n, fun | n => n⟩
theorem Tryz.laysNm216 : Go.Proofs.Lays2.n16 Tryz.prog Tryz.laysNm216_ren := {
  mixed := by kernel_rfl
  f16 := Tryz.func123.trans (congrArg some (by kernel_rfl))
  t4 := Tryz.underlying4
  a4 := Tryz.isAgg4
  z4 := Tryz.sizeOf4
  v4 := Tryz.zeroValue4
  t9 := Tryz.underlying9
  a9 := Tryz.isAgg9
  z9 := Tryz.sizeOf9
  v9 := Tryz.zeroValue9
  t24 := Tryz.underlying31
  a24 := Tryz.isAgg31
  z24 := Tryz.sizeOf31
  v24 := Tryz.zeroValue31
  i9 := by kernel_rfl }
open Go.RowKit Go.Lib in
/-- slices.Clone at []string: "Clone returns a copy of the slice. The elements are copied using assignment, so this is a shallow clone. The result may have additional unused capacity. The result preserves the nilness of s.": OF A SLICE THAT IS NOT nil IT RETURNS A SLICE THAT IS NOT nil, OF THE SAME ELEMENTS, IN MEMORY OF THE CALL's OWN: in the how-to's words (6f): 'w'.ownsRow B e 1 v' n cells': v' begins at the head of a row among the blocks from B on (B: the heap's size at the call), not frozen, whose first cells are the elements · 'Below B w w'': below B all is as it was. The capacity is whatever the run-time gives. 'zs': what the cells behind the slice's address hold; 'zs.take n': its elements. (LAID: no walk: one application.) -/
theorem Tryz.slices_Clone_string (b off n c : Nat) (zs : List ByteArray) (w : World) (hz : n ≤ zs.length) (hbig : n * 16 ≤ 140737488355328) (hc : ∀ j, j < zs.length → w.cell? ⟨b, off + j, none⟩ = some (.string (zs.getD j ByteArray.empty))) :
    Calls Tryz.prog 123 #[.slice (some ⟨b, off, none⟩) n c] w fun e w' => ∃ v', e = .returned v' ∧ w'.ownsRow w.heap.size 9 1 v' n ((zs.take n).map (Value.string)) ∧ v' ≠ .slice none 0 0 ∧ Below w.heap.size w w' := Any.slices_Clone_string Tryz.laysNm216 b off n c zs w hz hbig hc
open Go.RowKit Go.Lib in
/-- The same at nil: nil comes back; the world is as it was. (LAID: no walk: one application.) -/
theorem Tryz.slices_Clone_string_nil (n c : Nat) (w : World) :
    Calls Tryz.prog 123 #[.slice none n c] w fun e w' => e = .returned (.slice none 0 0) ∧ w' = w := Any.slices_Clone_string_nil Tryz.laysNm216 n c w
open Go.RowKit Go.Lib in
/-- The same at a slice of length 0 that is not nil, WHATEVER ITS ADDRESS (no cell is asked for): a slice that is not nil and owns nothing comes back. (LAID: no walk: one application.) -/
theorem Tryz.slices_Clone_string_zero (a : Addr) (c : Nat) (w : World) :
    Calls Tryz.prog 123 #[.slice (some a) 0 c] w fun e w' => ∃ v', e = .returned v' ∧ w'.ownsRow w.heap.size 9 1 v' 0 [] ∧ v' ≠ .slice none 0 0 ∧ Below w.heap.size w w' := Any.slices_Clone_string_zero Tryz.laysNm216 a c w
def Tryz.lays194_ren : Go.Shelf.Ren := ⟨fun | 194 => 125 | n => n, fun | 31 => 31 | 9 => 9 | 3 => 3 | 4 => 4 | 0 => 0 | n => n, fun | n => n⟩
theorem Tryz.lays194 : Go.Proofs.Lays.n194 Tryz.prog Tryz.lays194_ren := {
  mixed := by kernel_rfl
  f194 := Tryz.func125.trans (congrArg some (by kernel_rfl))
  t0 := Tryz.underlying0
  a0 := Tryz.isAgg0
  z0 := Tryz.sizeOf0
  v0 := Tryz.zeroValue0
  t3 := Tryz.underlying3
  a3 := Tryz.isAgg3
  z3 := Tryz.sizeOf3
  v3 := Tryz.zeroValue3
  t4 := Tryz.underlying4
  a4 := Tryz.isAgg4
  z4 := Tryz.sizeOf4
  v4 := Tryz.zeroValue4
  t9 := Tryz.underlying9
  a9 := Tryz.isAgg9
  z9 := Tryz.sizeOf9
  v9 := Tryz.zeroValue9
  t31 := Tryz.underlying31
  a31 := Tryz.isAgg31
  z31 := Tryz.sizeOf31
  v31 := Tryz.zeroValue31 }
open Go.RowKit Go.Lib Go.Sort in
/-- slices.Compact at []string: "Compact replaces consecutive runs of equal elements with a single copy. This is like the uniq command found on Unix. Compact modifies the contents of the slice s and returns the modified slice, which may have a smaller length. Compact zeroes the elements between the new length and the original length. The result preserves the nilness of s.": IT RETURNS THE SLICE CUT TO 'Lib.compact zs'; ITS CELLS HOLD 'Lib.compact zs', THEN ZERO VALUES up to the old length; all else is as it was, but for the count of draws. IN THE WORDS OF slices.Sort's CONTRACT ('Holds', 'putRow'): so the everyday 'slices.Sort(xs); xs = slices.Compact(xs)' goes from the one contract to the other. It asks 'zs.length ≤ cap' (every slice's: the reslicing 's[:k]' looks at it). Length 0, nil: '.._empty'. (LAID: no walk: one application.) -/
theorem Tryz.slices_Compact_string (blk off cap : Nat) (zs : List (List UInt8)) (w : World) (hH : Holds encStr w blk off zs.toArray) (hsz : zs.length ≤ 9223372036854775807) (hcap : zs.length ≤ cap) :
    Calls Tryz.prog 125 #[.slice (some ⟨blk, off, none⟩) zs.length cap] w fun e w' => e = .returned (.slice (some ⟨blk, off, none⟩) (Lib.compact zs).length cap) ∧ ∃ q, w' = putRow encStr (Sort.ahead w q) blk off (Lib.compact zs ++ List.replicate (zs.length - (Lib.compact zs).length) []).toArray := Any.slices_Compact_string Tryz.lays194 blk off cap zs w hH hsz hcap
open Go.RowKit Go.Lib Go.Sort in
/-- The same at a slice of length 0, a nil one too: it comes back as it is. (LAID: no walk: one application.) -/
theorem Tryz.slices_Compact_string_empty (a : Option Addr) (cap : Nat) (w : World) :
    Calls Tryz.prog 125 #[.slice a 0 cap] w fun e w' => e = .returned (.slice a 0 cap) ∧ w' = w := Any.slices_Compact_string_empty Tryz.lays194 a cap w
end Go.Proofs
/- The walks of dict.Texts, dict.sorted. -/
namespace Go.Proofs.YtmiboibadccceaaGreat
open Go.RowKit
set_option linter.unusedVariables false

def textsR (b : List (List UInt8)) (cs : List Nat) : List (List UInt8) × Nat :=
  if bookR b ≠ 0 then ([], bookR b) else if 64 < cs.length then ([], 2) else if cs.any (fun c => decide (b.length ≤ c)) then ([], 3) else (cs.map fun c => b.getD c [], 0)
theorem get_step (f : Nat → List UInt8) (cs : List Nat) (j : Nat) (hj : j < cs.length) :
    ((cs.take j).map f ++ List.replicate (cs.length - j) []).set j (f (cs.getD j 0)) = (cs.take (j + 1)).map f ++ List.replicate (cs.length - (j + 1)) [] := by
  have hl : ((cs.take j).map f).length = j := by simp; omega
  have e : cs.take (j + 1) = cs.take j ++ [cs.getD j 0] := by
    rw [List.take_succ_eq_append_getElem hj]; simp [List.getD, List.getElem?_eq_getElem hj]
  rw [List.set_append_right _ _ (by omega), hl, Nat.sub_self, show cs.length - j = (cs.length - (j + 1)) + 1 by omega, List.replicate_succ, List.set_cons_zero, e, List.map_append, List.append_assoc]
  rfl
theorem get_len (f : Nat → List UInt8) (cs : List Nat) (j : Nat) (hj : j ≤ cs.length) : ((cs.take j).map f ++ List.replicate (cs.length - j) []).length = cs.length := by simp; omega

/-- so far each is a place -/
def Plcs (cs : List Nat) (n k : Nat) : Prop := ∀ i, i < k → cs.getD i 0 < n
theorem Plcs.all {cs : List Nat} {n : Nat} (h : Plcs cs n cs.length) : cs.any (fun c => decide (n ≤ c)) = false := by
  rw [List.any_eq_false]
  intro x hx
  obtain ⟨i, hi, rfl⟩ := List.mem_iff_getElem.1 hx
  have := h i hi
  simp only [List.getD, List.getElem?_eq_getElem hi, Option.getD_some] at this
  simp; omega
theorem Plcs.succ {cs : List Nat} {n k : Nat} (h : Plcs cs n k) (hk : cs.getD k 0 < n) : Plcs cs n (k + 1) := by
  intro i hi
  by_cases e : i = k
  · rw [e]; exact hk
  · exact h i (by omega)

set_option maxHeartbeats 2000000 in
set_option maxRecDepth 100000 in
theorem dtexts_any (a : Option Addr) (c : Nat) (b : List (List UInt8)) (a2 : Option Addr) (c2 : Nat) (cs : List Nat) (w : World) (hx : ∀ x ∈ cs, x < 18446744073709551616) (hu : Txts w w.heap.size a b) (hu2 : Nums w w.heap.size a2 cs) :
    Calls Tryz.prog 79 #[.slice a b.length c, .slice a2 cs.length c2] w (TextsPost (textsR b cs) w) := by
  obtain ⟨i0, hi, hz0, hz1, hz2⟩ := info_parts info_str
  have HCK := Lib.hid (dcheck_any a c b w hu)
  unfold textsR
  by_cases hr : bookR b ≠ 0
  · rw [if_pos hr]
    generalize bookR b = er at *
    have g1 : ((er : Int) != 0) = true := by rw [bne_iff_ne]; omega
    clear hu hu2 hx
    go_enter Tryz.func79, Tryz.ntmps79
    go_wp2_with fail
    refine (HCK.out).mono ?_
    rintro e w1 ⟨rfl, hb1⟩
    go_wp2_with fail
    go_ret2
    exact TextsPost.none er hb1
  rw [if_neg hr]
  have hr0 : bookR b = 0 := by omega
  rw [hr0] at HCK
  have hbl := (bookR_len hr0).1
  by_cases h64 : 64 < cs.length
  · rw [if_pos h64]
    have g2 : decide ((64 : Int) < (cs.length : Int)) = true := decide_eq_true (by omega)
    clear hu hu2 hx hr hr0
    go_enter Tryz.func79, Tryz.ntmps79
    go_wp2_with fail
    refine (HCK.out).mono ?_
    rintro e w1 ⟨rfl, hb1⟩
    go_wp2_with fail
    go_ret2
    exact TextsPost.none 2 hb1
  rw [if_neg h64]
  have g2 : decide ((64 : Int) < (cs.length : Int)) = false := decide_eq_false (by omega)
  have HU := Lib.hid hu
  have HU2 := Lib.hid hu2
  have HX := Lib.hid (fun j (h : j < cs.length) => hx _ (getD_mem cs j h))
  obtain ⟨f, hf⟩ : ∃ f : Nat → List UInt8, f = fun c => b.getD c [] := ⟨_, rfl⟩
  have HFV := Lib.hid (fun c => show f c = b.getD c [] by rw [hf])
  rw [← hf]
  obtain ⟨R, hR⟩ : ∃ R, R = (if cs.any (fun c => decide (b.length ≤ c)) then (([] : List (List UInt8)), 3) else (cs.map f, 0)) := ⟨_, rfl⟩
  rw [← hR]
  have HBAD := Lib.hid (fun j (h : j < cs.length) (hj : b.length ≤ cs.getD j 0) => show R = ([], 3) by
    rw [hR, if_pos]; exact List.any_eq_true.2 ⟨_, getD_mem cs j h, by simpa using hj⟩)
  have HGOOD := Lib.hid (fun (h : Plcs cs b.length cs.length) => show R = (cs.map f, 0) by rw [hR, h.all, if_neg (by simp)])
  have HST := Lib.hid (fun j h => get_step f cs j h)
  have HLN := Lib.hid (fun j h => get_len f cs j h)
  have HEND := Lib.hid (show (cs.take cs.length).map f ++ List.replicate (cs.length - cs.length) [] = cs.map f by rw [List.take_length, Nat.sub_self]; simp)
  have HML := Lib.hid (show (cs.map f).length = cs.length by simp)
  have hcl : cs.length ≤ 64 := by omega
  have hwl : IntKind.u64.wrap (b.length : Int) = (b.length : Int) := by rw [IntKind.wrap_u64]; omega
  clear hu hu2 hx hr hr0 hf hR h64
  go_enter Tryz.func79, Tryz.ntmps79
  go_wp2_with fail
  refine (HCK.out).mono ?_
  rintro e w1 ⟨rfl, hb1⟩
  go_wp2_with (at_make; refine wpList_make_full _ rfl _ _ 31 rfl w1.heap.size 9 i0 (.string ByteArray.empty) 1 Tryz.underlying31 hi hz0 hz1 .i64 .i64 _ _ cs.length rfl rfl rfl rfl (by rw [hz2]; omega) (by unfold maxLen; omega) (Nat.le_refl _) ?_; intro w0 hown0 hgrow0)
  have hb0 : Below w1.heap.size w1 w0 := (Below.refl _ _).grown hgrow0 (Nat.le_refl _) (fun k hk => by cases hk)
  have hrow0 := made_trow hown0
  obtain ⟨g, hg⟩ : ∃ g, g = w1.heap.size := ⟨_, rfl⟩
  rw [← hg] at hrow0 ⊢
  have hgl : w1.heap.size ≤ g := by omega
  have hgw : w.heap.size ≤ g := by have := hb1.size; omega
  have hbw0 := below_then hb1 hb0
  clear hg hown0 hgrow0
  go_wp2_with fail
  go_loopw [8, 9, 23] (fun _ _ i wr => ∃ j : Nat, j ≤ cs.length ∧ i = .int .i64 j ∧ Hid (Plcs cs b.length j) ∧ TRow g ((cs.take j).map f ++ List.replicate (cs.length - j) []) (.slice (some ⟨g, 0, none⟩) cs.length cs.length) wr ∧ Below w.heap.size w wr) (fun _ _ i _ => cs.length - (intOf i).toNat)
  case atStart => exact ⟨0, by omega, rfl, Lib.hid (fun i hi => absurd hi (by omega)), by simpa using hrow0, hbw0⟩
  case round =>
    obtain ⟨j, hj, rfl, HPL, hrow, hbw⟩ := hrel
    by_cases hlt : j < cs.length
    · obtain ⟨bb, off, rfl, hbb, hcc⟩ := HU2.out (fun e => by rw [e] at hlt; simp at hlt)
      have cj := (hbw.cell (p := ⟨bb, off + j, none⟩) hbb).trans (hcc j hlt)
      have hxj := HX.out j hlt
      have HS := Lib.hid (HST.out j hlt)
      have hln := HLN.out j hj
      have HBJ := Lib.hid (HBAD.out j hlt)
      have HPS := Lib.hid (fun h => HPL.out.succ h)
      have hfv := HFV.out (cs.getD j 0)
      generalize cs.getD j 0 = x at *
      have hjI : (j : Int) < (cs.length : Int) := by omega
      clear hcc
      by_cases hge : b.length ≤ x
      · have g3 : decide (b.length ≤ x) = true := decide_eq_true hge
        have HB3 := Lib.hid (HBJ.out hge)
        clear hge hln hfv
        go_wp2_with fail
        go_ret2
        rw [HB3.out]
        exact TextsPost.none 3 hbw
      · have g3 : decide (b.length ≤ x) = false := decide_eq_false hge
        have HPN := Lib.hid (HPS.out (by omega))
        have hxb : x < b.length := by omega
        have hxI : (x : Int) < (b.length : Int) := by omega
        obtain ⟨b1, off1, rfl, hb1l, hcc1⟩ := HU.out (fun e => by rw [e] at hxb; simp at hxb)
        have cx := (hbw.cell (p := ⟨b1, off1 + x, none⟩) hb1l).trans (hcc1 x hxb)
        rw [← hfv] at cx
        generalize (cs.take j).map f ++ List.replicate (cs.length - j) [] = acc at *
        generalize f x = y at *
        have cg := hrow.cell j (by omega)
        have fg := hrow.free j
        have HR2 := Lib.hid (hrow.put j y)
        have HBW2 := Lib.hid (hbw.setCell (p := ⟨g, j, none⟩) hgw (.string (str y)))
        generalize acc.getD j [] = oz at *
        generalize str y = Y at *
        generalize str oz = OZ at *
        clear hge hln hfv hcc1 hrow
        go_wp2_with fail
        exact ⟨⟨j + 1, by omega, by go_num, HPN, by rw [← HS.out]; exact HR2.out, HBW2.out⟩, by simp [intOf]; omega⟩
    · obtain rfl : j = cs.length := by omega
      rw [HEND.out] at hrow
      have HT := Lib.hid hrow.txts.1
      have HRS := Lib.hid (HGOOD.out HPL.out)
      clear hrow
      go_wp2_with fail
      go_ret2
      rw [HRS.out]
      exact ⟨some ⟨g, 0, none⟩, cs.length, by rw [HML.out]; rfl, HT.out, hbw⟩

/-- what sorted leaves -/
def SortPost (l : List (List UInt8)) (w : World) (e : Ending) (w' : World) : Prop :=
  ∃ a c, e = .returned (.slice a (T.bk l).length c) ∧ TRow w.heap.size (T.bk l) (.slice a (T.bk l).length c) w' ∧ Below w.heap.size w w'

set_option maxHeartbeats 2000000 in
set_option maxRecDepth 100000 in
theorem dsorted_nil (a : Option Addr) (c : Nat) (w : World) :
    Calls Tryz.prog 78 #[.slice a 0 c] w (SortPost [] w) := by
  have HS := Lib.hid (fun p cap W => show Calls Tryz.prog 124 #[.slice p 0 cap] W (fun e w' => e = .returned (.tuple #[]) ∧ w' = W) from Go.Proofs.Any.slices_Sort_string_none Tryz.lays190 p cap W)
  have HC := Lib.hid (fun p cap W => Tryz.slices_Compact_string_empty p cap W)
  have HBK := Lib.hid (show T.bk [] = [] by simp [T.bk, Lib.compact, Lib.compactUpTo])
  match a with
  | none =>
    have HN := Lib.hid (Tryz.slices_Clone_string_nil 0 c w)
    go_enter Tryz.func78, Tryz.ntmps78
    go_wp2_with fail
    refine (HN.out).mono ?_
    rintro e w1 ⟨rfl, rfl⟩
    go_wp2_with fail
    refine (HS.out _ _ _).mono ?_
    rintro e w2 ⟨rfl, rfl⟩
    go_wp2_with fail
    refine (HC.out _ _ _).mono ?_
    rintro e w3 ⟨rfl, rfl⟩
    go_wp2_with fail
    go_ret
    exact ⟨none, 0, by rw [HBK.out]; rfl, by rw [HBK.out]; exact tnilRow _ _, Below.refl _ _⟩
  | some ad =>
    have HN := Lib.hid (Tryz.slices_Clone_string_zero ad c w)
    go_enter Tryz.func78, Tryz.ntmps78
    go_wp2_with fail
    refine (HN.out).mono ?_
    rintro e w1 ⟨v1, rfl, hown, hne, hb1⟩
    obtain ⟨a1, c1, rfl, _, _, _⟩ := tRow_txts (xs := []) hown
    have HO := Lib.hid hown
    clear hown hne
    go_wp2_with fail
    refine (HS.out _ _ _).mono ?_
    rintro e w2 ⟨rfl, rfl⟩
    go_wp2_with fail
    refine (HC.out _ _ _).mono ?_
    rintro e w3 ⟨rfl, rfl⟩
    go_wp2_with fail
    go_ret
    exact ⟨a1, c1, by rw [HBK.out]; rfl, by rw [HBK.out]; exact HO.out, hb1⟩

/-- from what the three contracts leave to a row of the call's own -/
theorem sort_end {w w1 : World} {g cap nn q : Nat} {os : Array Obj} {l : List (List UInt8)} (hrow : TRow w.heap.size l (.slice (some ⟨g, 0, none⟩) l.length cap) w1) (hb : Below w.heap.size w w1) :
    TRow w.heap.size (T.bk l) (.slice (some ⟨g, 0, none⟩) (T.bk l).length cap) (Go.Sort.putRow encStr (Go.Sort.ahead (Go.Sort.grow (Go.Sort.putRow encStr (Go.Sort.ahead w1 nn) g 0 (l.mergeSort fun x y => decide (x ≤ y)).toArray) os) q) g 0 (T.bk l ++ List.replicate (l.length - (T.bk l).length) []).toArray) ∧
    Below w.heap.size w (Go.Sort.putRow encStr (Go.Sort.ahead (Go.Sort.grow (Go.Sort.putRow encStr (Go.Sort.ahead w1 nn) g 0 (l.mergeSort fun x y => decide (x ≤ y)).toArray) os) q) g 0 (T.bk l ++ List.replicate (l.length - (T.bk l).length) []).toArray) := by
  have hsl : (l.mergeSort fun x y => decide (x ≤ y)).length = l.length := List.length_mergeSort l
  have hbl : (T.bk l).length ≤ l.length := by rw [← hsl]; exact Lib.compact_length_le _
  unfold TRow at hrow
  rcases hrow.2 with ⟨he, _⟩ | ⟨g', cap', cur, hv, hbase, hblk, h1, h2, h3, h4⟩
  · cases he
  cases hv
  have k1 := Go.ownsRow_sorted (n := nn) (os := os) (ts := l.mergeSort fun x y => decide (x ≤ y)) hsl hbase hblk h1 h2 h3
  have k2 := Lib.ownsRow_putRow (q := q) (k := (T.bk l).length) (ys := T.bk l ++ List.replicate (l.length - (T.bk l).length) []) k1 (by simp; omega) (by omega)
  rw [List.take_left] at k2
  exact ⟨k2, Lib.below_putRow (hb.grown (Go.grownBy_sorted _) hb.size (fun j hj => by cases hj; exact hbase)) hbase⟩

set_option maxHeartbeats 2000000 in
set_option maxRecDepth 100000 in
theorem dsorted_some (b off c : Nat) (l : List (List UInt8)) (w : World) (hl : l.length ≤ 64) (h0 : 0 < l.length) (hc : ∀ i, i < l.length → w.cell? ⟨b, off + i, none⟩ = some (.string (str (l.getD i [])))) :
    Calls Tryz.prog 78 #[.slice (some ⟨b, off, none⟩) l.length c] w (SortPost l w) := by
  have hcl := Tryz.slices_Clone_string b off l.length c (l.map str) w (by simp) (by omega) (by
    intro j hj
    have hj' : j < l.length := by simpa using hj
    rw [hc j hj']
    simp [List.getD, List.getElem?_eq_getElem hj'])
  have e : ((l.map str).take l.length).map Value.string = tv l := by
    rw [List.take_of_length_le (by simp), List.map_map]; rfl
  rw [e] at hcl
  have HCL := Lib.hid hcl
  have hsl : (l.mergeSort fun x y => decide (x ≤ y)).length = l.length := List.length_mergeSort l
  have HSL := Lib.hid hsl
  have HBK := Lib.hid (show Lib.compact (l.mergeSort fun x y => decide (x ≤ y)) = T.bk l from rfl)
  clear hcl e hsl hc
  go_enter Tryz.func78, Tryz.ntmps78
  go_wp2_with fail
  refine (HCL.out).mono ?_
  rintro e w1 ⟨v1, rfl, hown, hne, hb1⟩
  obtain ⟨a1, c1, rfl, _, hlc1, hcm1⟩ := tRow_txts (xs := l) hown
  have hrow : TRow w.heap.size l (.slice a1 l.length c1) w1 := hown
  obtain ⟨g, rfl, hcl1, hgw, hgs⟩ := hrow.form (fun e => by rw [e] at h0; simp at h0)
  have hH : Go.Sort.Holds encStr w1 g 0 l.toArray := by
    intro j hj
    have hj' : j < l.length := by simpa using hj
    have h1 := hrow.cell j hj'
    have h2 := hrow.free j
    rw [Nat.zero_add, h1, h2]
    refine ⟨?_, rfl⟩
    simp [List.getD, hj', str]
  have HSO := Lib.hid (Tryz.slices_Sort_string g 0 c1 l w1 hH hgs (by omega))
  have HROW := Lib.hid hrow
  have HH := Lib.hid hH
  clear hown hne hrow hH hcl1
  go_wp2_with fail
  refine (HSO.out).mono ?_
  rintro e w2 ⟨rfl, nn, os, rfl⟩
  have hH2 : Go.Sort.Holds encStr (Go.Sort.grow (Go.Sort.putRow encStr (Go.Sort.ahead w1 nn) g 0 (l.mergeSort fun x y => decide (x ≤ y)).toArray) os) g 0 (l.mergeSort fun x y => decide (x ≤ y)).toArray :=
    Go.Sort.holds_grow encStr _ os g 0 _ (by simpa [Go.Sort.putRow, Go.Sort.mapBlock, Go.Sort.ahead] using hgs) (Go.Sort.holds_putRow encStr _ g 0 _ _ (Go.Sort.holds_ahead encStr w1 nn g 0 _ HH.out) (by simp))
  have hcm := Tryz.slices_Compact_string g 0 c1 (l.mergeSort fun x y => decide (x ≤ y)) _ hH2 (by rw [HSL.out]; omega) (by rw [HSL.out]; exact hlc1)
  rw [HSL.out, HBK.out] at hcm
  have HCM := Lib.hid hcm
  clear hH2 hcm
  go_wp2_with fail
  refine (HCM.out).mono ?_
  rintro e w3 ⟨rfl, q, rfl⟩
  have hend := sort_end (nn := nn) (q := q) (os := os) HROW.out hb1
  have HE := Lib.hid hend
  clear hend
  go_wp2_with fail
  go_ret
  exact ⟨some ⟨g, 0, none⟩, c1, rfl, HE.out.1, HE.out.2⟩

theorem dsorted_any (a : Option Addr) (c : Nat) (l : List (List UInt8)) (w : World) (hl : l.length ≤ 64) (hu : Txts w w.heap.size a l) :
    Calls Tryz.prog 78 #[.slice a l.length c] w (SortPost l w) := by
  by_cases h : l = []
  · subst h; exact dsorted_nil a c w
  · obtain ⟨b, off, rfl, hb, hc⟩ := hu h
    exact dsorted_some b off c l w hl (by cases l with
      | nil => exact absurd rfl h
      | cons x t => simp) hc
end Go.Proofs.YtmiboibadccceaaGreat
