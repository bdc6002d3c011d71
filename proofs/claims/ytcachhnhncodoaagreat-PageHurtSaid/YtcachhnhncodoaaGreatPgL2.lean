/- The laws PageHurt, PageSwap. -/
import Derived.Test.YtcachhnhncodoaaGreatPgL1
import Derived.Test.YtcachhnhncodoaaGreatP10
namespace Go.Proofs.YtcachhnhncodoaaGreat
open Go.RowKit
set_option linter.unusedVariables false

theorem pex_take (x : List UInt8) (k : Nat) : (str x).extract 0 k = str (x.take k) := by
  apply ByteArray.ext; apply Array.toList_inj.1
  rw [take_data]; rfl
theorem pex_drop (x : List UInt8) (k : Nat) : (str x).extract k (str x).size = str (x.drop k) := by
  apply ByteArray.ext; apply Array.toList_inj.1
  rw [cut_data]; rfl
theorem pex_mid (x : List UInt8) (k : Nat) (h : k < x.length) : (str x).extract k (k + 1) = str [x.getD k 0] := by
  apply ByteArray.ext; apply Array.toList_inj.1
  rw [Lib.extract_data, str_data, List.drop_eq_getElem_cons h, Nat.add_sub_cancel_left]
  show [x[k]] = [x.getD k 0]
  simp [List.getD, List.getElem?_eq_getElem h]
theorem str_getD (x : List UInt8) (k : Nat) (h : k < x.length) (h2 : k < (str x).size) : (str x)[k] = x.getD k 0 := by
  simp only [List.getD, List.getElem?_eq_getElem h, Option.getD_some]; rfl

set_option maxHeartbeats 4000000 in
set_option maxRecDepth 100000 in
theorem pageHurt_walk (w : World) (k : Int) (hk : -9223372036854775808 ≤ k ∧ k ≤ 9223372036854775807) (a : Option Addr) (c : Nat) (l : List C.Cl) (hm : l.length ≤ maxLen) (hcap : l.length ≤ c ∧ c ≤ maxLen ∧ (a = none → c = 0)) (hx : ∀ x ∈ l, cOk x) (hu : Cls w w.heap.size a l) (p : Int) (hp : -9223372036854775808 ≤ p ∧ p ≤ 9223372036854775807) (n : Nat) (hn : n < 256) :
    Calls Tryz.prog 6 #[.int .i64 k, .slice a l.length c, .int .i64 p, .int .u8 n] w (BoolPost true w) := by
  have hW := pgwrite_any k a c l w hm hx hu
  unfold PackPost at hW
  by_cases h1 : C.chk k l ≠ 0
  · rw [show Pg.writeR k l = ([], C.chk k l) from if_pos h1] at hW
    have HW := Lib.hid (show Calls Tryz.prog 9 #[.int .i64 k, .slice a l.length c] w (fun e w' => e = .returned (.tuple #[.string ⟨#[]⟩, .int .i64 (C.chk k l : Nat)]) ∧ Below w.heap.size w w') from hW)
    generalize C.chk k l = er at *
    have g1 : ((er : Int) != 0) = true := by rw [bne_iff_ne]; omega
    clear hu hx hm hcap hW h1
    go_enter Tryz.func6, Tryz.ntmps6
    go_wp2_with fail
    refine (HW.out).mono ?_
    rintro e w1 ⟨rfl, hb1⟩
    go_wp2_with fail
    refine (pgbegun_any _).mono ?_
    rintro e w3 ⟨rfl, hb3⟩
    go_wp2_with fail
    go_ret
    exact ⟨rfl, below_then hb1 hb3⟩
  have h1' : C.chk k l = 0 := Classical.not_not.1 h1
  rw [show Pg.writeR k l = (Pg.sealB (Pg.bodyP k l), 0) from if_neg h1] at hW
  have hbl := Pg.body_len h1' hx
  have hsl := Pg.seal_length (Pg.bodyP k l)
  have h9 := V.sz_le (Pg.bodyP k l).length
  simp only at hW
  have HW := Lib.hid hW
  have HBD := Lib.hid (fun W (hb : Below w.heap.size w W) => pbody_any k a c l W h1' hx (hu.next hb))
  unfold TextPost at HBD
  have hsz := str_size (Pg.sealB (Pg.bodyP k l))
  have hszb := str_size (Pg.bodyP k l)
  have HVB := Lib.hid (fun W => show Calls Tryz.prog 15 #[.int .u64 ((str (Pg.bodyP k l)).size : Nat)] W (fun e w' => e = .returned (.string (str (V.enc (Pg.bodyP k l).length))) ∧ Below W.heap.size W w') by
    rw [hszb]; exact vbytes_any _ W (by omega))
  have hszv : (str (V.enc (Pg.bodyP k l).length)).size = V.sz (Pg.bodyP k l).length := by rw [str_size, V.enc_length]
  have hwb : IntKind.u64.wrap ((str (Pg.bodyP k l)).size : Int) = ((str (Pg.bodyP k l)).size : Int) := by rw [IntKind.wrap_u64]; omega
  by_cases hp0 : p < (V.sz (Pg.bodyP k l).length : Int)
  · have g2 : decide (p < ((str (V.enc (Pg.bodyP k l).length)).size : Int)) = true := decide_eq_true (by omega)
    generalize str (Pg.sealB (Pg.bodyP k l)) = S at *
    generalize str (V.enc (Pg.bodyP k l).length) = TV at *
    generalize str (Pg.bodyP k l) = TB at *
    clear hu hx hm hcap hW h1 h1' hbl hsl h9 hsz hszb hszv
    go_enter Tryz.func6, Tryz.ntmps6
    go_wp2_with fail
    refine (HW.out).mono ?_
    rintro e w1 ⟨rfl, hb1⟩
    go_wp2_with fail
    refine (pgbegun_any _).mono ?_
    rintro e w3 ⟨rfl, hb3⟩
    have h3 := below_then hb1 hb3
    go_wp2_with fail
    refine (HBD.out _ h3).mono ?_
    rintro e w4 ⟨rfl, hb4⟩
    go_wp2_with fail
    refine (HVB.out _).mono ?_
    rintro e w5 ⟨rfl, hb5⟩
    go_wp2_with fail
    go_ret
    exact ⟨rfl, below_then (below_then h3 hb4) hb5⟩
  obtain ⟨q, rfl⟩ : ∃ q : Nat, p = q := ⟨p.toNat, by omega⟩
  have g2 : decide (q < (str (V.enc (Pg.bodyP k l).length)).size) = false := decide_eq_false (by omega)
  have g2' : decide ((q : Int) < ((str (V.enc (Pg.bodyP k l).length)).size : Int)) = false := decide_eq_false (by omega)
  by_cases hp1 : (Pg.sealB (Pg.bodyP k l)).length ≤ q
  · have g3 : decide ((str (Pg.sealB (Pg.bodyP k l))).size ≤ q) = true := decide_eq_true (by omega)
    have g3' : decide (((str (Pg.sealB (Pg.bodyP k l))).size : Int) ≤ (q : Int)) = true := decide_eq_true (by omega)
    generalize str (Pg.sealB (Pg.bodyP k l)) = S at *
    generalize str (V.enc (Pg.bodyP k l).length) = TV at *
    generalize str (Pg.bodyP k l) = TB at *
    clear hu hx hm hcap hW h1 h1' hbl hsl h9 hsz hszb hszv hp0 hp1
    go_enter Tryz.func6, Tryz.ntmps6
    go_wp2_with fail
    refine (HW.out).mono ?_
    rintro e w1 ⟨rfl, hb1⟩
    go_wp2_with fail
    refine (pgbegun_any _).mono ?_
    rintro e w3 ⟨rfl, hb3⟩
    have h3 := below_then hb1 hb3
    go_wp2_with fail
    refine (HBD.out _ h3).mono ?_
    rintro e w4 ⟨rfl, hb4⟩
    go_wp2_with fail
    refine (HVB.out _).mono ?_
    rintro e w5 ⟨rfl, hb5⟩
    go_wp2_with fail
    go_ret
    exact ⟨rfl, below_then (below_then h3 hb4) hb5⟩
  have g3 : decide ((str (Pg.sealB (Pg.bodyP k l))).size ≤ q) = false := decide_eq_false (by omega)
  have g3' : decide (((str (Pg.sealB (Pg.bodyP k l))).size : Int) ≤ (q : Int)) = false := decide_eq_false (by omega)
  obtain ⟨y, rfl⟩ : ∃ y : UInt8, n = y.toNat := ⟨UInt8.ofNat n, by simp; omega⟩
  have hqS : q < (str (Pg.sealB (Pg.bodyP k l))).size := by omega
  have hqSI : (q : Int) < ((str (Pg.sealB (Pg.bodyP k l))).size : Int) := by omega
  have hbx := str_getD (Pg.sealB (Pg.bodyP k l)) q (by omega) hqS
  by_cases hxy : (Pg.sealB (Pg.bodyP k l)).getD q 0 = y
  · rw [hxy] at hbx
    have g4 : ((y.toNat : Int) == (y.toNat : Int)) = true := by simp
    generalize str (Pg.sealB (Pg.bodyP k l)) = S at *
    generalize str (V.enc (Pg.bodyP k l).length) = TV at *
    generalize str (Pg.bodyP k l) = TB at *
    clear hu hx hm hcap hW h1 h1' hbl hsl h9 hsz hszb hszv hp0 hp1 hxy
    go_enter Tryz.func6, Tryz.ntmps6
    go_wp2_with fail
    refine (HW.out).mono ?_
    rintro e w1 ⟨rfl, hb1⟩
    go_wp2_with fail
    refine (pgbegun_any _).mono ?_
    rintro e w3 ⟨rfl, hb3⟩
    have h3 := below_then hb1 hb3
    go_wp2_with fail
    refine (HBD.out _ h3).mono ?_
    rintro e w4 ⟨rfl, hb4⟩
    go_wp2_with fail
    refine (HVB.out _).mono ?_
    rintro e w5 ⟨rfl, hb5⟩
    go_wp2_with fail
    go_ret
    exact ⟨rfl, below_then (below_then h3 hb4) hb5⟩
  have hyt := UInt8.toNat_lt y
  have hxt := UInt8.toNat_lt ((Pg.sealB (Pg.bodyP k l)).getD q 0)
  have hne : ((Pg.sealB (Pg.bodyP k l)).getD q 0).toNat ≠ y.toNat := fun e => hxy (UInt8.toNat_inj.1 e)
  obtain ⟨z, hz⟩ : ∃ z, z = str [y] := ⟨_, rfl⟩
  have hzs : z.size = 1 := by rw [hz]; rfl
  have HB := Lib.hid (fun W => show Calls Tryz.prog 17 #[.int .u8 (y.toNat : Int)] W (fun e w' => e = .returned (.string z) ∧ Below W.heap.size W w') by rw [hz]; exact byteText_any y W)
  have e1 := pex_take (Pg.sealB (Pg.bodyP k l)) q
  have e2 := pex_drop (Pg.sealB (Pg.bodyP k l)) (q + 1)
  have hH := Pg.open_hurt (Pg.bodyP k l) [] q y (by omega) (by omega) (by omega) hxy
  rw [List.append_nil] at hH
  have HR := Lib.hid (fun W => show Calls Tryz.prog 12 #[.string ((str (Pg.sealB (Pg.bodyP k l))).extract 0 q ++ z ++ (str (Pg.sealB (Pg.bodyP k l))).extract (q + 1) (str (Pg.sealB (Pg.bodyP k l))).size)] W (fun e w' => e = .returned (.tuple #[.int .i64 0, .slice none 0 0, .int .i64 0, .int .i64 9]) ∧ Below W.heap.size W w') from by
    rw [e1, e2, hz, str_append, str_append]
    exact pgread_bad (by unfold Pg.readR; rw [hH]; rfl) (by decide) W (by simp only [List.length_append, List.length_take, List.length_drop, List.length_singleton]; unfold maxLen; omega))
  obtain ⟨J, hJ⟩ : ∃ J, J = q + 1 := ⟨_, rfl⟩
  rw [← hJ] at HR
  have hJI : IntKind.i64.wrap ((q : Int) + 1) = (J : Int) := by rw [IntKind.wrap_i64]; omega
  have hJL : (J : Int) ≤ ((str (Pg.sealB (Pg.bodyP k l))).size : Int) := by omega
  have hJN : J ≤ (str (Pg.sealB (Pg.bodyP k l))).size := by omega
  have hS2 : (str (Pg.sealB (Pg.bodyP k l))).size ≤ 3000 := by omega
  generalize (Pg.sealB (Pg.bodyP k l)).getD q 0 = b at *
  have g4 : ((b.toNat : Int) == (y.toNat : Int)) = false := by rw [beq_eq_false_iff_ne]; omega
  generalize str (Pg.sealB (Pg.bodyP k l)) = S at *
  generalize str (V.enc (Pg.bodyP k l).length) = TV at *
  generalize str (Pg.bodyP k l) = TB at *
  have hjL : (q : Int) ≤ (S.size : Int) := by omega
  have hjM : q ≤ S.size := by omega
  have hsum2 : ¬ 9223372036854775807 < q + z.size := by omega
  have hsum3 : ¬ 9223372036854775807 < q + z.size + (S.size - J) := by omega
  have hsum4 : ¬ 9223372036854775807 < min q S.size + z.size := by omega
  have hsum5 : ¬ 9223372036854775807 < min q S.size + z.size + (S.size - J) := by omega
  clear hu hx hm hcap hW h1 h1' hbl hsl h9 hsz hszb hszv hp0 hp1 hxy hne hyt hxt hz hzs e1 e2 hH hJ hS2
  go_enter Tryz.func6, Tryz.ntmps6
  go_wp2_with fail
  refine (HW.out).mono ?_
  rintro e w1 ⟨rfl, hb1⟩
  go_wp2_with fail
  refine (pgbegun_any _).mono ?_
  rintro e w3 ⟨rfl, hb3⟩
  have h3 := below_then hb1 hb3
  go_wp2_with fail
  refine (HBD.out _ h3).mono ?_
  rintro e w4 ⟨rfl, hb4⟩
  have h4 := below_then h3 hb4
  go_wp2_with fail
  refine (HVB.out _).mono ?_
  rintro e w5 ⟨rfl, hb5⟩
  have h5 := below_then h4 hb5
  go_wp2_with fail
  refine wp_region_wb (by kernel_rfl) (by kernel_rfl) ?_
  repeat (quiet_step (first
    | (go_at_call 17; refine calls_wb (v := .string z) ?_; with_reducible exact HB.out _)
    | (go_at_call 12; refine calls_wb (v := .tuple #[.int .i64 0, .slice none 0 0, .int .i64 0, .int .i64 9]) ?_; with_reducible exact HR.out _)))
  refine wpQuiet_nil ?_
  rintro _ ⟨p3, rfl⟩
  have hp3 := p3.below
  go_wp2_with fail
  go_ret
  exact ⟨rfl, below_then h5 hp3⟩

set_option maxHeartbeats 4000000 in
set_option maxRecDepth 100000 in
theorem pageSwap_walk (w : World) (k : Int) (hk : -9223372036854775808 ≤ k ∧ k ≤ 9223372036854775807) (a : Option Addr) (c : Nat) (l : List C.Cl) (hm : l.length ≤ maxLen) (hcap : l.length ≤ c ∧ c ≤ maxLen ∧ (a = none → c = 0)) (hx : ∀ x ∈ l, cOk x) (hu : Cls w w.heap.size a l) (p : Int) (hp : -9223372036854775808 ≤ p ∧ p ≤ 9223372036854775807) :
    Calls Tryz.prog 7 #[.int .i64 k, .slice a l.length c, .int .i64 p] w (BoolPost true w) := by
  have hW := pgwrite_any k a c l w hm hx hu
  unfold PackPost at hW
  by_cases h1 : C.chk k l ≠ 0
  · rw [show Pg.writeR k l = ([], C.chk k l) from if_pos h1] at hW
    have HW := Lib.hid (show Calls Tryz.prog 9 #[.int .i64 k, .slice a l.length c] w (fun e w' => e = .returned (.tuple #[.string ⟨#[]⟩, .int .i64 (C.chk k l : Nat)]) ∧ Below w.heap.size w w') from hW)
    generalize C.chk k l = er at *
    have g1 : ((er : Int) != 0) = true := by rw [bne_iff_ne]; omega
    clear hu hx hm hcap hW h1
    go_enter Tryz.func7, Tryz.ntmps7
    go_wp2_with fail
    refine (HW.out).mono ?_
    rintro e w1 ⟨rfl, hb1⟩
    go_wp2_with fail
    refine (pgbegun_any _).mono ?_
    rintro e w3 ⟨rfl, hb3⟩
    go_wp2_with fail
    go_ret
    exact ⟨rfl, below_then hb1 hb3⟩
  have h1' : C.chk k l = 0 := Classical.not_not.1 h1
  rw [show Pg.writeR k l = (Pg.sealB (Pg.bodyP k l), 0) from if_neg h1] at hW
  have hbl := Pg.body_len h1' hx
  have hsl := Pg.seal_length (Pg.bodyP k l)
  have h9 := V.sz_le (Pg.bodyP k l).length
  simp only at hW
  have HW := Lib.hid hW
  have HBD := Lib.hid (fun W (hb : Below w.heap.size w W) => pbody_any k a c l W h1' hx (hu.next hb))
  unfold TextPost at HBD
  have hsz := str_size (Pg.sealB (Pg.bodyP k l))
  have hszb := str_size (Pg.bodyP k l)
  have HVB := Lib.hid (fun W => show Calls Tryz.prog 15 #[.int .u64 ((str (Pg.bodyP k l)).size : Nat)] W (fun e w' => e = .returned (.string (str (V.enc (Pg.bodyP k l).length))) ∧ Below W.heap.size W w') by
    rw [hszb]; exact vbytes_any _ W (by omega))
  have hszv : (str (V.enc (Pg.bodyP k l).length)).size = V.sz (Pg.bodyP k l).length := by rw [str_size, V.enc_length]
  have hwb : IntKind.u64.wrap ((str (Pg.bodyP k l)).size : Int) = ((str (Pg.bodyP k l)).size : Int) := by rw [IntKind.wrap_u64]; omega
  have hw1 : IntKind.i64.wrap (((str (V.enc (Pg.bodyP k l).length)).size : Int) + ((str (Pg.bodyP k l)).size : Int)) = ((str (V.enc (Pg.bodyP k l).length)).size : Int) + ((str (Pg.bodyP k l)).size : Int) := by rw [IntKind.wrap_i64]; omega
  have hw2 : IntKind.i64.wrap (((str (V.enc (Pg.bodyP k l).length)).size : Int) + ((str (Pg.bodyP k l)).size : Int) - 1) = ((str (V.enc (Pg.bodyP k l).length)).size : Int) + ((str (Pg.bodyP k l)).size : Int) - 1 := by rw [IntKind.wrap_i64]; omega
  by_cases hp0 : p < (V.sz (Pg.bodyP k l).length : Int)
  · have g2 : decide (p < ((str (V.enc (Pg.bodyP k l).length)).size : Int)) = true := decide_eq_true (by omega)
    generalize str (Pg.sealB (Pg.bodyP k l)) = S at *
    generalize str (V.enc (Pg.bodyP k l).length) = TV at *
    generalize str (Pg.bodyP k l) = TB at *
    clear hu hx hm hcap hW h1 h1' hbl hsl h9 hsz hszb hszv hp0
    go_enter Tryz.func7, Tryz.ntmps7
    go_wp2_with fail
    refine (HW.out).mono ?_
    rintro e w1 ⟨rfl, hb1⟩
    go_wp2_with fail
    refine (pgbegun_any _).mono ?_
    rintro e w3 ⟨rfl, hb3⟩
    have h3 := below_then hb1 hb3
    go_wp2_with fail
    refine (HBD.out _ h3).mono ?_
    rintro e w4 ⟨rfl, hb4⟩
    go_wp2_with fail
    refine (HVB.out _).mono ?_
    rintro e w5 ⟨rfl, hb5⟩
    have h5 := below_then (below_then h3 hb4) hb5
    go_wp2_with fail
    go_quiet (fail)
    go_wp2_with fail
    go_ret
    exact ⟨rfl, below_drewN h5 _⟩
  obtain ⟨q, rfl⟩ : ∃ q : Nat, p = q := ⟨p.toNat, by omega⟩
  have g2 : decide (q < (str (V.enc (Pg.bodyP k l).length)).size) = false := decide_eq_false (by omega)
  have g2' : decide ((q : Int) < ((str (V.enc (Pg.bodyP k l).length)).size : Int)) = false := decide_eq_false (by omega)
  by_cases hp1 : V.sz (Pg.bodyP k l).length + (Pg.bodyP k l).length ≤ q + 1
  · have g3 : decide (((str (V.enc (Pg.bodyP k l).length)).size : Int) + ((str (Pg.bodyP k l)).size : Int) - 1 ≤ (q : Int)) = true := decide_eq_true (by omega)
    generalize str (Pg.sealB (Pg.bodyP k l)) = S at *
    generalize str (V.enc (Pg.bodyP k l).length) = TV at *
    generalize str (Pg.bodyP k l) = TB at *
    clear hu hx hm hcap hW h1 h1' hbl hsl h9 hsz hszb hszv hp0 hp1
    go_enter Tryz.func7, Tryz.ntmps7
    go_wp2_with fail
    refine (HW.out).mono ?_
    rintro e w1 ⟨rfl, hb1⟩
    go_wp2_with fail
    refine (pgbegun_any _).mono ?_
    rintro e w3 ⟨rfl, hb3⟩
    have h3 := below_then hb1 hb3
    go_wp2_with fail
    refine (HBD.out _ h3).mono ?_
    rintro e w4 ⟨rfl, hb4⟩
    go_wp2_with fail
    refine (HVB.out _).mono ?_
    rintro e w5 ⟨rfl, hb5⟩
    have h5 := below_then (below_then h3 hb4) hb5
    go_wp2_with fail
    go_quiet (fail)
    go_wp2_with fail
    go_ret
    exact ⟨rfl, below_drewN h5 _⟩
  have g3 : decide (((str (V.enc (Pg.bodyP k l).length)).size : Int) + ((str (Pg.bodyP k l)).size : Int) - 1 ≤ (q : Int)) = false := decide_eq_false (by omega)
  obtain ⟨J, hJ⟩ : ∃ J, J = q + 1 := ⟨_, rfl⟩
  obtain ⟨K, hK⟩ : ∃ K, K = q + 2 := ⟨_, rfl⟩
  have hqS : q < (str (Pg.sealB (Pg.bodyP k l))).size := by omega
  have hqSI : (q : Int) < ((str (Pg.sealB (Pg.bodyP k l))).size : Int) := by omega
  have hJS : J < (str (Pg.sealB (Pg.bodyP k l))).size := by omega
  have hJSI : (J : Int) < ((str (Pg.sealB (Pg.bodyP k l))).size : Int) := by omega
  have hJI : IntKind.i64.wrap ((q : Int) + 1) = (J : Int) := by rw [IntKind.wrap_i64]; omega
  have hKI : IntKind.i64.wrap ((q : Int) + 2) = (K : Int) := by rw [IntKind.wrap_i64]; omega
  have hbx := str_getD (Pg.sealB (Pg.bodyP k l)) q (by omega) hqS
  have hbJ := str_getD (Pg.sealB (Pg.bodyP k l)) J (by omega) hJS
  by_cases hxy : (Pg.sealB (Pg.bodyP k l)).getD q 0 = (Pg.sealB (Pg.bodyP k l)).getD J 0
  · rw [hxy] at hbx
    generalize (Pg.sealB (Pg.bodyP k l)).getD J 0 = y at *
    have g4 : ((y.toNat : Int) == (y.toNat : Int)) = true := by simp
    generalize str (Pg.sealB (Pg.bodyP k l)) = S at *
    generalize str (V.enc (Pg.bodyP k l).length) = TV at *
    generalize str (Pg.bodyP k l) = TB at *
    clear hu hx hm hcap hW h1 h1' hbl hsl h9 hsz hszb hszv hp0 hp1 hxy hJ hK
    go_enter Tryz.func7, Tryz.ntmps7
    go_wp2_with fail
    refine (HW.out).mono ?_
    rintro e w1 ⟨rfl, hb1⟩
    go_wp2_with fail
    refine (pgbegun_any _).mono ?_
    rintro e w3 ⟨rfl, hb3⟩
    have h3 := below_then hb1 hb3
    go_wp2_with fail
    refine (HBD.out _ h3).mono ?_
    rintro e w4 ⟨rfl, hb4⟩
    go_wp2_with fail
    refine (HVB.out _).mono ?_
    rintro e w5 ⟨rfl, hb5⟩
    have h5 := below_then (below_then h3 hb4) hb5
    go_wp2_with fail
    go_quiet (fail)
    go_wp2_with fail
    go_ret
    exact ⟨rfl, below_drewN h5 _⟩
  have hne : ((Pg.sealB (Pg.bodyP k l)).getD q 0).toNat ≠ ((Pg.sealB (Pg.bodyP k l)).getD J 0).toNat := fun e => hxy (UInt8.toNat_inj.1 e)
  have g4 : ((((Pg.sealB (Pg.bodyP k l)).getD q 0).toNat : Int) == (((Pg.sealB (Pg.bodyP k l)).getD J 0).toNat : Int)) = false := by rw [beq_eq_false_iff_ne]; omega
  have e1 := pex_take (Pg.sealB (Pg.bodyP k l)) q
  have e2 := pex_drop (Pg.sealB (Pg.bodyP k l)) K
  have e3 : (str (Pg.sealB (Pg.bodyP k l))).extract q J = str [(Pg.sealB (Pg.bodyP k l)).getD q 0] := by rw [hJ]; exact pex_mid _ q (by omega)
  have e4 : (str (Pg.sealB (Pg.bodyP k l))).extract J K = str [(Pg.sealB (Pg.bodyP k l)).getD J 0] := by rw [hJ, hK]; exact pex_mid _ (q + 1) (by omega)
  have hH := Pg.open_swap (Pg.bodyP k l) q (by omega) (by omega) (by omega) (by rw [← hJ]; exact hxy)
  rw [← hJ, ← hK] at hH
  have HR := Lib.hid (fun W => show Calls Tryz.prog 12 #[.string ((str (Pg.sealB (Pg.bodyP k l))).extract 0 q ++ (str (Pg.sealB (Pg.bodyP k l))).extract J K ++ (str (Pg.sealB (Pg.bodyP k l))).extract q J ++ (str (Pg.sealB (Pg.bodyP k l))).extract K (str (Pg.sealB (Pg.bodyP k l))).size)] W (fun e w' => e = .returned (.tuple #[.int .i64 0, .slice none 0 0, .int .i64 0, .int .i64 9]) ∧ Below W.heap.size W w') from by
    rw [e1, e2, e3, e4, str_append, str_append, str_append]
    exact pgread_bad (by unfold Pg.readR; rw [hH]; rfl) (by decide) W (by simp only [List.length_append, List.length_take, List.length_drop, List.length_singleton]; unfold maxLen; omega))
  have hJL : (J : Int) ≤ ((str (Pg.sealB (Pg.bodyP k l))).size : Int) := by omega
  have hKL : (K : Int) ≤ ((str (Pg.sealB (Pg.bodyP k l))).size : Int) := by omega
  have hKN : K ≤ (str (Pg.sealB (Pg.bodyP k l))).size := by omega
  have hJN : J ≤ (str (Pg.sealB (Pg.bodyP k l))).size := by omega
  have hjJ : (q : Int) ≤ (J : Int) := by omega
  have hJK : (J : Int) ≤ (K : Int) := by omega
  have hjJN : q ≤ J := by omega
  have hJKN : J ≤ K := by omega
  have hS2 : (str (Pg.sealB (Pg.bodyP k l))).size ≤ 3000 := by omega
  generalize (Pg.sealB (Pg.bodyP k l)).getD q 0 = b at *
  generalize (Pg.sealB (Pg.bodyP k l)).getD J 0 = y at *
  generalize str (Pg.sealB (Pg.bodyP k l)) = S at *
  generalize str (V.enc (Pg.bodyP k l).length) = TV at *
  generalize str (Pg.bodyP k l) = TB at *
  have hjL : (q : Int) ≤ (S.size : Int) := by omega
  have hjM : q ≤ S.size := by omega
  have d1 : ¬ 9223372036854775807 < q + (K - J) := by omega
  have d2 : ¬ 9223372036854775807 < q + (K - J) + (J - q) := by omega
  have d3 : ¬ 9223372036854775807 < q + (K - J) + (J - q) + (S.size - K) := by omega
  clear hu hx hm hcap hW h1 h1' hbl hsl h9 hsz hszb hszv hp0 hp1 hxy hne e1 e2 e3 e4 hH hJ hK hS2
  go_enter Tryz.func7, Tryz.ntmps7
  go_wp2_with fail
  refine (HW.out).mono ?_
  rintro e w1 ⟨rfl, hb1⟩
  go_wp2_with fail
  refine (pgbegun_any _).mono ?_
  rintro e w3 ⟨rfl, hb3⟩
  have h3 := below_then hb1 hb3
  go_wp2_with fail
  refine (HBD.out _ h3).mono ?_
  rintro e w4 ⟨rfl, hb4⟩
  have h4 := below_then h3 hb4
  go_wp2_with fail
  refine (HVB.out _).mono ?_
  rintro e w5 ⟨rfl, hb5⟩
  have h5 := below_then h4 hb5
  go_wp2_with fail
  go_quiet (fail)
  have h5d := below_drewN h5
  go_wp2_with fail
  refine wp_region_wb (by kernel_rfl) (by kernel_rfl) ?_
  repeat (quiet_step (first
    | (go_at_call 12; refine calls_wb (v := .tuple #[.int .i64 0, .slice none 0 0, .int .i64 0, .int .i64 9]) ?_; with_reducible exact HR.out _)))
  refine wpQuiet_nil ?_
  rintro _ ⟨p3, rfl⟩
  have hp3 := p3.below
  go_wp2_with fail
  go_ret
  exact ⟨rfl, below_then (h5d _) hp3⟩
end Go.Proofs.YtcachhnhncodoaaGreat
