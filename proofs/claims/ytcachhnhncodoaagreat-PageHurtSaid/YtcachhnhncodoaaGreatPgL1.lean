/- The laws PageTells, PageBack, PageCut. -/
import Derived.Test.YtcachhnhncodoaaGreatPgL0
import Derived.Test.YtcachhnhncodoaaGreatPgW11
namespace Go.Proofs.YtcachhnhncodoaaGreat
open Go.RowKit
set_option linter.unusedVariables false

set_option maxHeartbeats 1000000 in
set_option maxRecDepth 100000 in
theorem pageTells_walk (w : World) (k : Int) (hk : -9223372036854775808 ≤ k ∧ k ≤ 9223372036854775807) (a : Option Addr) (c : Nat) (l : List C.Cl) (hm : l.length ≤ maxLen) (hcap : l.length ≤ c ∧ c ≤ maxLen ∧ (a = none → c = 0)) (hx : ∀ x ∈ l, cOk x) (hu : Cls w w.heap.size a l) :
    Calls Tryz.prog 3 #[.int .i64 k, .slice a l.length c] w (BoolPost true w) := by
  have HW := Lib.hid (pgwrite_any k a c l w hm hx hu)
  have HP := Lib.hid (fun W (hb : Below w.heap.size w W) => pbytes_any k hk a c l W hm hx (hu.next hb))
  unfold PackPost at HW HP
  generalize (Pg.writeR k l).2 = er at *
  generalize str (Pg.writeR k l).1 = T at *
  have g2 : ((er : Int) == (er : Int)) = true := by simp
  clear hu hx hm hcap
  go_enter Tryz.func3, Tryz.ntmps3
  go_wp2_with fail
  refine (HW.out).mono ?_
  rintro e w1 ⟨rfl, hb1⟩
  go_wp2_with fail
  refine (HP.out _ hb1).mono ?_
  rintro e w2 ⟨rfl, hb2⟩
  have h2 := below_then hb1 hb2
  go_wp2_with fail
  refine (pgbegun_any _).mono ?_
  rintro e w3 ⟨rfl, hb3⟩
  go_wp2_with fail
  go_ret
  exact ⟨rfl, below_then h2 hb3⟩

theorem ptxt (s : ByteArray) : ∃ t : List UInt8, s = str t ∧ t.length = s.size := ⟨s.data.toList, (str_eta s).symm, len_data s⟩
set_option maxHeartbeats 2000000 in
set_option maxRecDepth 100000 in
theorem pageBack_walk (w : World) (k : Int) (hk : -9223372036854775808 ≤ k ∧ k ≤ 9223372036854775807) (a : Option Addr) (c : Nat) (l : List C.Cl) (hm : l.length ≤ maxLen) (hcap : l.length ≤ c ∧ c ≤ maxLen ∧ (a = none → c = 0)) (hx : ∀ x ∈ l, cOk x) (hu : Cls w w.heap.size a l) (s : ByteArray) (hs : s.size ≤ maxLen) (hr1 : l.length * 32 ≤ 140737488351232) (hr2 : s.size ≤ 140737488351232) :
    Calls Tryz.prog 5 #[.int .i64 k, .slice a l.length c, .string s] w (BoolPost true w) := by
  obtain ⟨t, rfl, ht⟩ := ptxt s
  have hW := pgwrite_any k a c l w hm hx hu
  unfold PackPost at hW
  by_cases h1 : C.chk k l ≠ 0
  · rw [show Pg.writeR k l = ([], C.chk k l) from if_pos h1] at hW
    have HW := Lib.hid (show Calls Tryz.prog 9 #[.int .i64 k, .slice a l.length c] w (fun e w' => e = .returned (.tuple #[.string ⟨#[]⟩, .int .i64 (C.chk k l : Nat)]) ∧ Below w.heap.size w w') from hW)
    generalize C.chk k l = er at *
    generalize str t = S at *
    have g1 : ((er : Int) != 0) = true := by rw [bne_iff_ne]; omega
    clear hu hx hm hcap hW h1
    go_enter Tryz.func5, Tryz.ntmps5
    go_wp2_with fail
    refine (HW.out).mono ?_
    rintro e w1 ⟨rfl, hb1⟩
    go_wp2_with fail
    refine (pgbegun_any _).mono ?_
    rintro e w3 ⟨rfl, hb3⟩
    go_wp2_with fail
    go_ret
    exact ⟨rfl, below_then hb1 hb3⟩
  have h1' : C.chk k l = 0 := Classical.not_not.1 h1
  rw [show Pg.writeR k l = (Pg.sealB (Pg.bodyP k l), 0) from if_neg h1] at hW
  have hbl := Pg.body_len h1' hx
  have hsl := Pg.seal_length (Pg.bodyP k l)
  have h9 := V.sz_le (Pg.bodyP k l).length
  have hR := fun W => pgread_any (Pg.sealB (Pg.bodyP k l) ++ t) W (by rw [List.length_append]; unfold maxLen; omega)
  rw [Pg.read_back h1' hx (by omega) t] at hR
  unfold PReadPost at hR
  simp only at hW hR
  have HR := Lib.hid hR
  have HW := Lib.hid hW
  have HX := Lib.hid (show str (Pg.sealB (Pg.bodyP k l)) ++ str t = str (Pg.sealB (Pg.bodyP k l) ++ t) from str_append _ _)
  obtain ⟨_, hl64, _⟩ := C.chk_ok h1'
  have HSM := Lib.hid (fun am cm W h1 h2 => csame_t l.length l ⟨rfl, hl64⟩ am a cm c W h1 h2)
  have hsz := str_size (Pg.sealB (Pg.bodyP k l))
  have hst := str_size t
  generalize str (Pg.sealB (Pg.bodyP k l) ++ t) = ST at *
  generalize (Pg.sealB (Pg.bodyP k l)).length = n at *
  generalize str (Pg.sealB (Pg.bodyP k l)) = S at *
  generalize str t = T at *
  have g2 : ((n : Int) == (S.size : Int)) = true := by rw [beq_iff_eq]; omega
  have g3 : (k == k) = true := by simp
  have c1 : ¬ 9223372036854775807 < S.size + T.size := by omega
  clear hx hm hcap hW hR h1 h1' hbl hsl h9 hsz hst ht hs hr1 hr2
  have HU := Lib.hid hu
  clear hu
  go_enter Tryz.func5, Tryz.ntmps5
  go_wp2_with fail
  refine (HW.out).mono ?_
  rintro e w1 ⟨rfl, hb1⟩
  go_wp2_with fail
  refine (pgbegun_any _).mono ?_
  rintro e w3 ⟨rfl, hb3⟩
  have h3 := below_then hb1 hb3
  go_wp2_with fail
  rw [HX.out]
  refine (HR.out _).mono ?_
  rintro e w4 ⟨v4, rfl, hrow4, -, hb4⟩
  obtain ⟨a4, c4, rfl, d4, _⟩ := cRow_cls hrow4
  have h4 := below_then h3 hb4
  clear hrow4
  go_wp2_with fail
  refine (HSM.out _ _ _ d4 (HU.out.next h4)).mono ?_
  rintro e w5 ⟨rfl, hb5⟩
  go_wp2_with fail
  go_ret
  exact ⟨rfl, below_then h4 hb5⟩

set_option maxHeartbeats 2000000 in
set_option maxRecDepth 100000 in
theorem pageCut_walk (w : World) (k : Int) (hk : -9223372036854775808 ≤ k ∧ k ≤ 9223372036854775807) (a : Option Addr) (c : Nat) (l : List C.Cl) (hm : l.length ≤ maxLen) (hcap : l.length ≤ c ∧ c ≤ maxLen ∧ (a = none → c = 0)) (hx : ∀ x ∈ l, cOk x) (hu : Cls w w.heap.size a l) (p : Int) (hp : -9223372036854775808 ≤ p ∧ p ≤ 9223372036854775807) :
    Calls Tryz.prog 8 #[.int .i64 k, .slice a l.length c, .int .i64 p] w (BoolPost true w) := by
  have hW := pgwrite_any k a c l w hm hx hu
  unfold PackPost at hW
  by_cases h1 : C.chk k l ≠ 0
  · rw [show Pg.writeR k l = ([], C.chk k l) from if_pos h1] at hW
    have HW := Lib.hid (show Calls Tryz.prog 9 #[.int .i64 k, .slice a l.length c] w (fun e w' => e = .returned (.tuple #[.string ⟨#[]⟩, .int .i64 (C.chk k l : Nat)]) ∧ Below w.heap.size w w') from hW)
    generalize C.chk k l = er at *
    have g1 : ((er : Int) != 0) = true := by rw [bne_iff_ne]; omega
    clear hu hx hm hcap hW h1
    go_enter Tryz.func8, Tryz.ntmps8
    go_wp2_with fail
    refine (HW.out).mono ?_
    rintro e w1 ⟨rfl, hb1⟩
    go_wp2_with fail
    refine (pgbegun_any _).mono ?_
    rintro e w3 ⟨rfl, hb3⟩
    go_wp2_with fail
    go_ret
    exact ⟨rfl, below_then hb1 hb3⟩
  have h1' : C.chk k l = 0 := Classical.not_not.1 h1
  rw [show Pg.writeR k l = (Pg.sealB (Pg.bodyP k l), 0) from if_neg h1] at hW
  have hbl := Pg.body_len h1' hx
  have hsl := Pg.seal_length (Pg.bodyP k l)
  have h9 := V.sz_le (Pg.bodyP k l).length
  simp only at hW
  have HW := Lib.hid hW
  have hsz := str_size (Pg.sealB (Pg.bodyP k l))
  by_cases hp0 : p < 0
  · have g2 : decide (p < 0) = true := decide_eq_true hp0
    generalize str (Pg.sealB (Pg.bodyP k l)) = S at *
    clear hu hx hm hcap hW h1 h1' hbl hsl h9 hsz
    go_enter Tryz.func8, Tryz.ntmps8
    go_wp2_with fail
    refine (HW.out).mono ?_
    rintro e w1 ⟨rfl, hb1⟩
    go_wp2_with fail
    refine (pgbegun_any _).mono ?_
    rintro e w3 ⟨rfl, hb3⟩
    go_wp2_with fail
    go_ret
    exact ⟨rfl, below_then hb1 hb3⟩
  obtain ⟨q, rfl⟩ : ∃ q : Nat, p = q := ⟨p.toNat, by omega⟩
  by_cases hp1 : (Pg.sealB (Pg.bodyP k l)).length ≤ q
  · have g2 : decide ((str (Pg.sealB (Pg.bodyP k l))).size ≤ q) = true := decide_eq_true (by omega)
    have g3 : decide (((str (Pg.sealB (Pg.bodyP k l))).size : Int) ≤ (q : Int)) = true := decide_eq_true (by omega)
    generalize str (Pg.sealB (Pg.bodyP k l)) = S at *
    clear hu hx hm hcap hW h1 h1' hbl hsl h9 hsz
    go_enter Tryz.func8, Tryz.ntmps8
    go_wp2_with fail
    refine (HW.out).mono ?_
    rintro e w1 ⟨rfl, hb1⟩
    go_wp2_with fail
    refine (pgbegun_any _).mono ?_
    rintro e w3 ⟨rfl, hb3⟩
    go_wp2_with fail
    go_ret
    exact ⟨rfl, below_then hb1 hb3⟩
  have g2 : decide ((str (Pg.sealB (Pg.bodyP k l))).size ≤ q) = false := decide_eq_false (by omega)
  have g3 : decide (((str (Pg.sealB (Pg.bodyP k l))).size : Int) ≤ (q : Int)) = false := decide_eq_false (by omega)
  have hR := fun W => pgread_any ((Pg.sealB (Pg.bodyP k l)).take q) W (by rw [List.length_take]; unfold maxLen; omega)
  rw [show Pg.readR ((Pg.sealB (Pg.bodyP k l)).take q) = (0, [], 0, 5) by
    unfold Pg.readR; rw [Pg.open_cut (Pg.bodyP k l) q (by omega) (by omega)]; rfl] at hR
  unfold PReadPost at hR
  have HR := Lib.hid hR
  have HX := Lib.hid (show (str (Pg.sealB (Pg.bodyP k l))).extract 0 q = str ((Pg.sealB (Pg.bodyP k l)).take q) by have := str_cut (Pg.sealB (Pg.bodyP k l)) 0 q; rw [Nat.zero_add] at this; simpa using this)
  have hqS : q ≤ (str (Pg.sealB (Pg.bodyP k l))).size := by omega
  have hqI : (q : Int) ≤ ((str (Pg.sealB (Pg.bodyP k l))).size : Int) := by omega
  generalize str ((Pg.sealB (Pg.bodyP k l)).take q) = ST at *
  generalize str (Pg.sealB (Pg.bodyP k l)) = S at *
  clear hu hx hm hcap hW h1 h1' hbl hsl h9 hsz hR hp1
  go_enter Tryz.func8, Tryz.ntmps8
  go_wp2_with fail
  refine (HW.out).mono ?_
  rintro e w1 ⟨rfl, hb1⟩
  go_wp2_with fail
  refine (pgbegun_any _).mono ?_
  rintro e w3 ⟨rfl, hb3⟩
  have h3 := below_then hb1 hb3
  go_wp2_with fail
  rw [HX.out]
  refine (HR.out _).mono ?_
  rintro e w4 ⟨v4, rfl, hrow4, -, hb4⟩
  go_wp2_with fail
  go_ret
  exact ⟨rfl, below_then h3 hb4⟩
end Go.Proofs.YtcachhnhncodoaaGreat
