/- The walks of codec.headed, opened, wideOf, fit at numbers and at texts; strings.Clone. -/
import Derived.Test.YtmiboibadccceaaGreatK7
import Derived.Test.YtmiboibadccceaaGreatShelfClone
namespace Go.Proofs.YtmiboibadccceaaGreat
open Go.RowKit
set_option linter.unusedVariables false

def headR (h : Nat) (r : List UInt8 × Nat) : List UInt8 × Nat := if r.2 ≠ 0 then ([], r.2) else (UInt8.ofNat h :: r.1, 0)
set_option maxHeartbeats 1000000 in
set_option maxRecDepth 100000 in
theorem headed_any (h : Nat) (s : List UInt8) (er : Nat) (w : World) (hh : h < 256) (hs : s.length ≤ 1048576) :
    Calls Tryz.prog 37 #[.int .i64 h, .string (str s), .int .i64 er] w (PackPost (headR h (s, er)) w) := by
  by_cases h0 : er ≠ 0
  · have HR := Lib.hid (show headR h (s, er) = ([], er) from if_pos h0)
    have g1 : ((er : Int) != 0) = true := by rw [bne_iff_ne]; omega
    generalize str s = S at *
    go_enter Tryz.func37, Tryz.ntmps37
    go_wp2_with fail
    go_ret2
    rw [HR.out]; exact ⟨rfl, Below.refl _ _⟩
  have h0 : er = 0 := Decidable.not_not.1 h0
  subst h0
  have HR := Lib.hid (show headR h (s, 0) = (UInt8.ofNat h :: s, 0) from if_neg (by simp))
  have hcv := run_text1 w h
  have HC := Lib.hid (show str [UInt8.ofNat h] ++ str s = str (UInt8.ofNat h :: s) from str_append _ _)
  have s1 := str_size [UInt8.ofNat h]
  have s2 := str_size s
  simp only [List.length_cons, List.length_nil] at s1
  generalize str s = S at *
  generalize str [UInt8.ofNat h] = U at *
  have c1 : ¬ 9223372036854775807 < U.size + S.size := by omega
  clear s1 s2
  have hw8 : IntKind.u8.wrap (h : Int) = (h : Int) % 256 := rfl
  go_enter Tryz.func37, Tryz.ntmps37
  go_wp2_with fail
  go_ret2
  rw [HR.out]
  exact ⟨by rw [HC.out]; rfl, (Below.refl _ _).alloc (Nat.le_refl _) _⟩

def openR (s : List UInt8) (many : Int) : Nat × List UInt8 × Nat :=
  if many < 0 then (0, [], 3) else if 64 < many then (0, [], 2)
  else match s with
    | [] => (0, [], 5)
    | c :: t => (c.toNat, t, 0)
def OpenPost (r : Nat × List UInt8 × Nat) (w : World) (e : Ending) (w' : World) : Prop := e = .returned (.tuple #[.int .i64 r.1, .string (str r.2.1), .int .i64 r.2.2]) ∧ Below w.heap.size w w'
set_option maxHeartbeats 1000000 in
set_option maxRecDepth 100000 in
theorem opened_any (s : List UInt8) (many : Int) (w : World) (hs : s.length ≤ maxLen) :
    Calls Tryz.prog 55 #[.string (str s), .int .i64 many] w (OpenPost (openR s many) w) := by
  unfold maxLen at hs
  by_cases h0 : many < 0
  · have HR := Lib.hid (show openR s many = (0, [], 3) from if_pos h0)
    have g1 : decide (many < 0) = true := decide_eq_true h0
    go_enter Tryz.func55, Tryz.ntmps55
    go_wp2_with fail
    go_ret3
    rw [HR.out]; exact ⟨rfl, Below.refl _ _⟩
  have g1 : decide (many < 0) = false := decide_eq_false h0
  by_cases h1 : 64 < many
  · have HR := Lib.hid (show openR s many = (0, [], 2) by unfold openR; rw [if_neg h0, if_pos h1])
    have g2 : decide (64 < many) = true := decide_eq_true h1
    go_enter Tryz.func55, Tryz.ntmps55
    go_wp2_with fail
    go_ret3
    rw [HR.out]; exact ⟨rfl, Below.refl _ _⟩
  have g2 : decide (64 < many) = false := decide_eq_false h1
  cases s with
  | nil =>
    have HR := Lib.hid (show openR [] many = (0, [], 5) by unfold openR; rw [if_neg h0, if_neg h1])
    have g3 : (str []).toList.isEmpty = true := by rw [str_toList]; rfl
    go_enter Tryz.func55, Tryz.ntmps55
    go_wp2_with fail
    go_ret3
    rw [HR.out]; exact ⟨rfl, Below.refl _ _⟩
  | cons c t =>
    have HR := Lib.hid (show openR (c :: t) many = (c.toNat, t, 0) by unfold openR; rw [if_neg h0, if_neg h1])
    have hsz := str_size (c :: t)
    rw [List.length_cons] at hsz hs
    have hz : 0 < (str (c :: t)).size := by omega
    have hz1 : 1 ≤ (str (c :: t)).size := by omega
    have hz1I : (1 : Int) ≤ ((str (c :: t)).size : Int) := by omega
    have hc : (str (c :: t))[0].toNat = c.toNat := rfl
    have g3 : (str (c :: t)).toList.isEmpty = false := by rw [str_toList]; rfl
    have g4 : ((str (c :: t)).toList == []) = false := by rw [str_toList]; rfl
    have HX := Lib.hid (str_tail c t)
    generalize str (c :: t) = S at *
    have hcl : c.toNat < 256 := c.toNat_lt
    generalize c.toNat = n at *
    have hw8 : IntKind.i64.wrap (n : Int) = (n : Int) := by rw [IntKind.wrap_i64]; omega
    clear hsz
    go_enter Tryz.func55, Tryz.ntmps55
    go_wp2_with fail
    go_quiet (fail)
    go_wp2_with fail
    go_ret3
    rw [HR.out]; exact ⟨by rw [← HX.out]; rfl, below_drewN (Below.refl _ _) _⟩

set_option maxHeartbeats 1000000 in
theorem wideOf_any (n : Nat) (w : World) (hn : n ≤ 64) :
    Calls Tryz.prog 136 #[.int .i64 n] w fun e w' => e = .returned (.int .i64 (bw n : Nat)) ∧ Below w.heap.size w w' := by
  by_cases h0 : n = 0
  · subst h0
    go_enter Tryz.func136, Tryz.ntmps136
    go_wp2_with fail
    go_ret
    exact ⟨rfl, Below.refl _ _⟩
  obtain ⟨q, rfl⟩ : ∃ q, n = q + 1 := ⟨n - 1, by omega⟩
  have hbw : bw (q + 1) = B.wd [q] := by
    have e : B.wd [q] = B.bl q := by simp [B.wd]
    rw [e]
    unfold bw
    by_cases h1 : q + 1 ≤ 1
    · obtain rfl : q = 0 := by omega
      rfl
    · rw [if_neg h1, Nat.add_sub_cancel]
  have hal : Nums (w.alloc (.cells #[.int .u64 (q : Int)] 46)) (w.alloc (.cells #[.int .u64 (q : Int)] 46)).heap.size (some ⟨w.heap.size, 0, none⟩) [q] := nums_lit w [q]
  have HW := Lib.hid (width_any _ 1 [q] _ _ (by unfold maxLen; simp) (by intro x hx; simp at hx; omega) hal)
  rw [hbw]
  generalize B.wd [q] = W at *
  obtain ⟨N, hN⟩ : ∃ N : Int, N = ((q + 1 : Nat) : Int) := ⟨_, rfl⟩
  have g1 : (N == 0) = false := by rw [beq_eq_false_iff_ne]; omega
  have hw1 : IntKind.i64.wrap (N - 1) = (q : Int) := by rw [IntKind.wrap_i64]; omega
  have hw2 : IntKind.u64.wrap (q : Int) = (q : Int) := by rw [IntKind.wrap_u64]; omega
  rw [← hN]
  clear hN hbw hal h0
  go_enter Tryz.func136, Tryz.ntmps136
  go_wp2_with fail
  refine (HW.out).mono ?_
  rintro e w1 ⟨rfl, rfl⟩
  go_wp2_with fail
  go_ret
  exact ⟨rfl, (Below.refl _ _).alloc (Nat.le_refl _) _⟩

theorem nclos_any (x : Nat) (w : World) :
    Calls Tryz.prog 35 #[.int .u64 (x : Int)] w fun e w' => e = .returned (.bool false) ∧ w = w' := by
  go_enter Tryz.func35, Tryz.ntmps35
  go_wp2_with fail
  go_ret
  exact ⟨rfl, rfl⟩
set_option maxHeartbeats 400000 in
theorem tclos_any (x : List UInt8) (w : World) :
    Calls Tryz.prog 48 #[.string (str x)] w fun e w' => e = .returned (.bool (long x)) ∧ w = w' := by
  have hs := str_size x
  have HL := Lib.hid (show long x = decide (16 < (str x).size) by rw [hs]; rfl)
  generalize str x = s at *
  clear hs
  go_enter Tryz.func48, Tryz.ntmps48
  go_wp2_with fail
  go_ret
  exact ⟨by rw [HL.out]; simp; omega, rfl⟩

set_option maxHeartbeats 1000000 in
set_option maxRecDepth 100000 in
theorem nindex_any (w : World) (a : Option Addr) (c : Nat) (l : List Nat) (hl : l.length ≤ 64) (B' : Nat) (hu : Nums w B' a l) :
    Calls Tryz.prog 129 #[.slice a l.length c, .func (.func 35) #[] #[]] w fun e w' => e = .returned (.int .i64 (-1)) ∧ w = w' := by
  have HU := Lib.hid hu
  have HC := Lib.hid (fun (x : Nat) => nclos_any x w)
  clear hu
  go_enter Tryz.func129, Tryz.ntmps129
  go_wp2_with fail
  go_loop [5, 8] (fun _ i => ∃ j : Nat, j ≤ l.length ∧ i = .int .i64 j) (fun _ i => l.length - (intOf i).toNat)
  case atStart => exact ⟨0, by omega, rfl⟩
  case round =>
    obtain ⟨j, hj, rfl⟩ := hrel
    by_cases hlt : j < l.length
    · obtain ⟨b, off, rfl, hb, hcc⟩ := HU.out (fun e => by rw [e] at hlt; simp at hlt)
      have cj := hcc j hlt
      have HCX := Lib.hid (HC.out (l.getD j 0))
      generalize l.getD j 0 = x at *
      have hjI : (j : Int) < (l.length : Int) := by omega
      clear hcc
      go_wp2_with fail
      refine (HCX.out).mono ?_
      rintro e w1 ⟨rfl, rfl⟩
      go_wp2_with fail
      exact ⟨⟨j + 1, by omega, by go_num⟩, by simp [intOf]; omega⟩
    · obtain rfl : j = l.length := by omega
      go_wp2_with fail
      go_ret
      exact ⟨rfl, rfl⟩

def tidx (l : List (List UInt8)) : Int := if l.findIdx long < l.length then (l.findIdx long : Nat) else -1
set_option maxHeartbeats 1000000 in
set_option maxRecDepth 100000 in
theorem tindex_any (w : World) (a : Option Addr) (c : Nat) (l : List (List UInt8)) (hl : l.length ≤ 64) (B' : Nat) (hu : Txts w B' a l) :
    Calls Tryz.prog 135 #[.slice a l.length c, .func (.func 48) #[] #[]] w fun e w' => e = .returned (.int .i64 (tidx l)) ∧ w = w' := by
  have HU := Lib.hid hu
  have HST := Lib.hid (fun j h => idx_step long l j h)
  have HC := Lib.hid (fun x => show Calls Tryz.prog 48 #[.string (str x)] w (fun e w' => e = .returned (.bool (long x)) ∧ w = w') from tclos_any x w)
  have HI := Lib.hid (show tidx l = if l.findIdx long < l.length then ((l.findIdx long : Nat) : Int) else -1 from rfl)
  generalize tidx l = I at *
  generalize hp : long = p at *
  clear hu hp
  generalize hR : l.findIdx p = R at *
  have HR0 := Lib.hid (show R = 0 + (l.drop 0).findIdx p by rw [← hR]; simp)
  clear hR
  go_enter Tryz.func135, Tryz.ntmps135
  go_wp2_with fail
  go_loop [5, 8] (fun _ i => ∃ j : Nat, j ≤ l.length ∧ i = .int .i64 j ∧ Hid (R = j + (l.drop j).findIdx p)) (fun _ i => l.length - (intOf i).toNat)
  case atStart => exact ⟨0, by omega, rfl, HR0⟩
  case round =>
    obtain ⟨j, hj, rfl, HJ⟩ := hrel
    by_cases hlt : j < l.length
    · obtain ⟨b, off, rfl, hb, hcc⟩ := HU.out (fun e => by rw [e] at hlt; simp at hlt)
      have cj := hcc j hlt
      have hst := HST.out j hlt
      have HCX := Lib.hid (HC.out (l.getD j []))
      generalize l.getD j [] = x at *
      have hjI : (j : Int) < (l.length : Int) := by omega
      by_cases ho : p x = true
      · rw [ho, if_pos rfl] at hst
        rw [ho] at HCX
        have HRJ := Lib.hid (show I = j by rw [HI.out, if_pos (by rw [HJ.out, hst]; omega), HJ.out, hst, Nat.add_zero])
        clear hcc hst ho
        go_wp2_with fail
        refine (HCX.out).mono ?_
        rintro e w1 ⟨rfl, rfl⟩
        go_wp2_with fail
        go_ret
        exact ⟨by rw [HRJ.out]; rfl, rfl⟩
      · have ho' : p x = false := by simpa using ho
        rw [ho', if_neg (by simp)] at hst
        rw [ho'] at HCX
        have HN := Lib.hid (show R = (j + 1) + (l.drop (j + 1)).findIdx p by rw [HJ.out, hst]; omega)
        clear hcc hst ho ho'
        go_wp2_with fail
        refine (HCX.out).mono ?_
        rintro e w1 ⟨rfl, rfl⟩
        go_wp2_with fail
        exact ⟨⟨j + 1, by omega, by go_num, HN⟩, by simp [intOf]; omega⟩
    · obtain rfl : j = l.length := by omega
      have HRE := Lib.hid (show I = -1 by rw [HI.out, if_neg (by rw [HJ.out, List.drop_length]; simp)])
      go_wp2_with fail
      go_ret
      exact ⟨by rw [HRE.out]; rfl, rfl⟩

set_option maxHeartbeats 400000 in
theorem ncontains_any (w : World) (a : Option Addr) (c : Nat) (l : List Nat) (hl : l.length ≤ 64) (B' : Nat) (hu : Nums w B' a l) :
    Calls Tryz.prog 83 #[.slice a l.length c, .func (.func 35) #[] #[]] w fun e w' => e = .returned (.bool false) ∧ w = w' := by
  have HC := Lib.hid (nindex_any w a c l hl B' hu)
  clear hu
  go_enter Tryz.func83, Tryz.ntmps83
  go_wp2_with fail
  refine (HC.out).mono ?_
  rintro e w1 ⟨rfl, rfl⟩
  go_wp2_with fail
  go_ret
  exact ⟨rfl, rfl⟩
set_option maxHeartbeats 400000 in
theorem tcontains_any (w : World) (a : Option Addr) (c : Nat) (l : List (List UInt8)) (hl : l.length ≤ 64) (B' : Nat) (hu : Txts w B' a l) :
    Calls Tryz.prog 92 #[.slice a l.length c, .func (.func 48) #[] #[]] w fun e w' => e = .returned (.bool (decide (l.findIdx long < l.length))) ∧ w = w' := by
  have HC := Lib.hid (tindex_any w a c l hl B' hu)
  have HG := Lib.hid (show decide (0 ≤ tidx l) = decide (l.findIdx long < l.length) by unfold tidx; by_cases h : l.findIdx long < l.length <;> simp [h])
  generalize tidx l = I at *
  clear hu
  go_enter Tryz.func92, Tryz.ntmps92
  go_wp2_with fail
  refine (HC.out).mono ?_
  rintro e w1 ⟨rfl, rfl⟩
  go_wp2_with fail
  go_ret
  exact ⟨by rw [← HG.out]; rfl, rfl⟩

def nfitR (l : List Nat) : Nat := if 64 < l.length then 2 else 0
set_option maxHeartbeats 400000 in
theorem nfit_any (w : World) (a : Option Addr) (c : Nat) (l : List Nat) (B' : Nat) (hu : Nums w B' a l) :
    Calls Tryz.prog 34 #[.slice a l.length c, .func (.func 35) #[] #[]] w fun e w' => e = .returned (.int .i64 (nfitR l : Nat)) ∧ w = w' := by
  by_cases h : 64 < l.length
  · have HR := Lib.hid (show nfitR l = 2 from if_pos h)
    have g1 : decide ((64 : Int) < (l.length : Int)) = true := decide_eq_true (by omega)
    go_enter Tryz.func34, Tryz.ntmps34
    go_wp2_with fail
    go_ret
    exact ⟨by rw [HR.out]; rfl, rfl⟩
  have HR := Lib.hid (show nfitR l = 0 from if_neg h)
  have g1 : decide ((64 : Int) < (l.length : Int)) = false := decide_eq_false (by omega)
  have HC := Lib.hid (ncontains_any w a c l (by omega) B' hu)
  clear hu
  go_enter Tryz.func34, Tryz.ntmps34
  go_wp2_with fail
  refine (HC.out).mono ?_
  rintro e w1 ⟨rfl, rfl⟩
  go_wp2_with fail
  go_ret
  exact ⟨by rw [HR.out]; rfl, rfl⟩
set_option maxHeartbeats 400000 in
theorem tfit_any (w : World) (a : Option Addr) (c : Nat) (l : List (List UInt8)) (B' : Nat) (hu : Txts w B' a l) :
    Calls Tryz.prog 47 #[.slice a l.length c, .func (.func 48) #[] #[]] w fun e w' => e = .returned (.int .i64 (fitR l : Nat)) ∧ w = w' := by
  by_cases h : 64 < l.length
  · have HR := Lib.hid (show fitR l = 2 from if_pos (Or.inl h))
    have g1 : decide ((64 : Int) < (l.length : Int)) = true := decide_eq_true (by omega)
    go_enter Tryz.func47, Tryz.ntmps47
    go_wp2_with fail
    go_ret
    exact ⟨by rw [HR.out]; rfl, rfl⟩
  have g1 : decide ((64 : Int) < (l.length : Int)) = false := decide_eq_false (by omega)
  have hc := tcontains_any w a c l (by omega) B' hu
  by_cases h2 : l.findIdx long < l.length
  · have HR := Lib.hid (show fitR l = 2 from if_pos (Or.inr h2))
    rw [decide_eq_true h2] at hc
    have HC := Lib.hid hc
    clear hu hc h2
    go_enter Tryz.func47, Tryz.ntmps47
    go_wp2_with fail
    refine (HC.out).mono ?_
    rintro e w1 ⟨rfl, rfl⟩
    go_wp2_with fail
    go_ret
    exact ⟨by rw [HR.out]; rfl, rfl⟩
  · have HR := Lib.hid (show fitR l = 0 from if_neg (by omega))
    rw [decide_eq_false h2] at hc
    have HC := Lib.hid hc
    clear hu hc h2
    go_enter Tryz.func47, Tryz.ntmps47
    go_wp2_with fail
    refine (HC.out).mono ?_
    rintro e w1 ⟨rfl, rfl⟩
    go_wp2_with fail
    go_ret
    exact ⟨by rw [HR.out]; rfl, rfl⟩

set_option maxHeartbeats 400000 in
theorem clone_any (s : List UInt8) (w : World) (hs : s.length ≤ 1048576) :
    Calls Tryz.prog 163 #[.string (str s)] w (TextPost s w) := by
  have HC := Lib.hid (fun W => Tryz.stringslite_Clone (str s) W (by rw [str_size]; omega))
  unfold TextPost
  generalize str s = S at *
  go_enter Tryz.func163, Tryz.ntmps163
  go_wp2_with fail
  refine (HC.out _).mono ?_
  rintro e w1 ⟨rfl, hb⟩
  go_wp2_with fail
  go_ret
  exact ⟨rfl, hb⟩
end Go.Proofs.YtmiboibadccceaaGreat
