/- KW1, PW3, KR2, KW2, KW4, KR4, KW5, KW3, KW6, KW7, DBack, KPlain, KL3. -/
import Derived.Test.YtcachhnhncodoaaGreatP7
namespace Go.Proofs.YtcachhnhncodoaaGreat
open Go.RowKit
set_option linter.unusedVariables false
def headR (h : Nat) (r : List UInt8 × Nat) : List UInt8 × Nat := if r.2 ≠ 0 then ([], r.2) else (UInt8.ofNat h :: r.1, 0)
set_option maxHeartbeats 1000000 in
set_option maxRecDepth 100000 in
theorem headed_any (h : Nat) (s : List UInt8) (er : Nat) (w : World) (hh : h < 256) (hs : s.length ≤ 1048576) :
    Calls Tryz.prog 110 #[.int .i64 h, .string (str s), .int .i64 er] w (PackPost (headR h (s, er)) w) := by
  by_cases h0 : er ≠ 0
  · have HR := Lib.hid (show headR h (s, er) = ([], er) from if_pos h0)
    have g1 : ((er : Int) != 0) = true := by rw [bne_iff_ne]; omega
    generalize str s = S at *
    go_enter Tryz.func110, Tryz.ntmps110
    go_wp2_with fail
    go_ret2
    rw [HR.out]; exact ⟨rfl, Below.refl _ _⟩
  have h0 : er = 0 := Decidable.not_not.1 h0
  subst h0
  have HR := Lib.hid (show headR h (s, 0) = (UInt8.ofNat h :: s, 0) from if_neg (by simp))
  have hcv := run_text1 w h
  have HC := Lib.hid (show str [UInt8.ofNat h] ++ str s = str (UInt8.ofNat h :: s) from str_append _ _)
  have s1 := str_size [UInt8.ofNat h]
  have s2 := str_size s
  simp only [List.length_cons, List.length_nil] at s1
  generalize str s = S at *
  generalize str [UInt8.ofNat h] = U at *
  have c1 : ¬ 9223372036854775807 < U.size + S.size := by omega
  clear s1 s2
  have hw8 : IntKind.u8.wrap (h : Int) = (h : Int) % 256 := rfl
  go_enter Tryz.func110, Tryz.ntmps110
  go_wp2_with fail
  go_ret2
  rw [HR.out]
  exact ⟨by rw [HC.out]; rfl, (Below.refl _ _).alloc (Nat.le_refl _) _⟩
def openR (s : List UInt8) (many : Int) : Nat × List UInt8 × Nat :=
  if many < 0 then (0, [], 3) else if 64 < many then (0, [], 2)
  else match s with
    | [] => (0, [], 5)
    | c :: t => (c.toNat, t, 0)
def OpenPost (r : Nat × List UInt8 × Nat) (w : World) (e : Ending) (w' : World) : Prop := e = .returned (.tuple #[.int .i64 r.1, .string (str r.2.1), .int .i64 r.2.2]) ∧ Below w.heap.size w w'
set_option maxHeartbeats 1000000 in
set_option maxRecDepth 100000 in
theorem opened_any (s : List UInt8) (many : Int) (w : World) (hs : s.length ≤ maxLen) :
    Calls Tryz.prog 119 #[.string (str s), .int .i64 many] w (OpenPost (openR s many) w) := by
  unfold maxLen at hs
  by_cases h0 : many < 0
  · have HR := Lib.hid (show openR s many = (0, [], 3) from if_pos h0)
    have g1 : decide (many < 0) = true := decide_eq_true h0
    go_enter Tryz.func119, Tryz.ntmps119
    go_wp2_with fail
    go_ret3
    rw [HR.out]; exact ⟨rfl, Below.refl _ _⟩
  have g1 : decide (many < 0) = false := decide_eq_false h0
  by_cases h1 : 64 < many
  · have HR := Lib.hid (show openR s many = (0, [], 2) by unfold openR; rw [if_neg h0, if_pos h1])
    have g2 : decide (64 < many) = true := decide_eq_true h1
    go_enter Tryz.func119, Tryz.ntmps119
    go_wp2_with fail
    go_ret3
    rw [HR.out]; exact ⟨rfl, Below.refl _ _⟩
  have g2 : decide (64 < many) = false := decide_eq_false h1
  cases s with
  | nil =>
    have HR := Lib.hid (show openR [] many = (0, [], 5) by unfold openR; rw [if_neg h0, if_neg h1])
    have g3 : (str []).toList.isEmpty = true := by rw [str_toList]; rfl
    go_enter Tryz.func119, Tryz.ntmps119
    go_wp2_with fail
    go_ret3
    rw [HR.out]; exact ⟨rfl, Below.refl _ _⟩
  | cons c t =>
    have HR := Lib.hid (show openR (c :: t) many = (c.toNat, t, 0) by unfold openR; rw [if_neg h0, if_neg h1])
    have hsz := str_size (c :: t)
    rw [List.length_cons] at hsz hs
    have hz : 0 < (str (c :: t)).size := by omega
    have hz1 : 1 ≤ (str (c :: t)).size := by omega
    have hz1I : (1 : Int) ≤ ((str (c :: t)).size : Int) := by omega
    have hc : (str (c :: t))[0].toNat = c.toNat := rfl
    have g3 : (str (c :: t)).toList.isEmpty = false := by rw [str_toList]; rfl
    have g4 : ((str (c :: t)).toList == []) = false := by rw [str_toList]; rfl
    have HX := Lib.hid (str_tail c t)
    generalize str (c :: t) = S at *
    have hcl : c.toNat < 256 := c.toNat_lt
    generalize c.toNat = n at *
    have hw8 : IntKind.i64.wrap (n : Int) = (n : Int) := by rw [IntKind.wrap_i64]; omega
    clear hsz
    go_enter Tryz.func119, Tryz.ntmps119
    go_wp2_with fail
    go_quiet (fail)
    go_wp2_with fail
    go_ret3
    rw [HR.out]; exact ⟨by rw [← HX.out]; rfl, below_drewN (Below.refl _ _) _⟩
set_option maxHeartbeats 1000000 in
theorem wideOf_any (n : Nat) (w : World) (hn : n ≤ 64) :
    Calls Tryz.prog 170 #[.int .i64 n] w fun e w' => e = .returned (.int .i64 (bw n : Nat)) ∧ Below w.heap.size w w' := by
  by_cases h0 : n = 0
  · subst h0
    go_enter Tryz.func170, Tryz.ntmps170
    go_wp2_with fail
    go_ret
    exact ⟨rfl, Below.refl _ _⟩
  obtain ⟨q, rfl⟩ : ∃ q, n = q + 1 := ⟨n - 1, by omega⟩
  have hbw : bw (q + 1) = B.wd [q] := by
    have e : B.wd [q] = B.bl q := by simp [B.wd]
    rw [e]
    unfold bw
    by_cases h1 : q + 1 ≤ 1
    · obtain rfl : q = 0 := by omega
      rfl
    · rw [if_neg h1, Nat.add_sub_cancel]
  have hal : Nums (w.alloc (.cells #[.int .u64 (q : Int)] 34)) (w.alloc (.cells #[.int .u64 (q : Int)] 34)).heap.size (some ⟨w.heap.size, 0, none⟩) [q] := nums_lit w [q]
  have HW := Lib.hid (width_any _ 1 [q] _ _ (by unfold maxLen; simp) (by intro x hx; simp at hx; omega) hal)
  rw [hbw]
  generalize B.wd [q] = W at *
  obtain ⟨N, hN⟩ : ∃ N : Int, N = ((q + 1 : Nat) : Int) := ⟨_, rfl⟩
  have g1 : (N == 0) = false := by rw [beq_eq_false_iff_ne]; omega
  have hw1 : IntKind.i64.wrap (N - 1) = (q : Int) := by rw [IntKind.wrap_i64]; omega
  have hw2 : IntKind.u64.wrap (q : Int) = (q : Int) := by rw [IntKind.wrap_u64]; omega
  rw [← hN]
  clear hN hbw hal h0
  go_enter Tryz.func170, Tryz.ntmps170
  go_wp2_with fail
  refine (HW.out).mono ?_
  rintro e w1 ⟨rfl, rfl⟩
  go_wp2_with fail
  go_ret
  exact ⟨rfl, (Below.refl _ _).alloc (Nat.le_refl _) _⟩
theorem nclos_any (x : Nat) (w : World) :
    Calls Tryz.prog 108 #[.int .u64 (x : Int)] w fun e w' => e = .returned (.bool false) ∧ w = w' := by
  go_enter Tryz.func108, Tryz.ntmps108
  go_wp2_with fail
  go_ret
  exact ⟨rfl, rfl⟩
set_option maxHeartbeats 400000 in
theorem tclos_any (x : List UInt8) (w : World) :
    Calls Tryz.prog 112 #[.string (str x)] w fun e w' => e = .returned (.bool (long x)) ∧ w = w' := by
  have hs := str_size x
  have HL := Lib.hid (show long x = decide (16 < (str x).size) by rw [hs]; rfl)
  generalize str x = s at *
  clear hs
  go_enter Tryz.func112, Tryz.ntmps112
  go_wp2_with fail
  go_ret
  exact ⟨by rw [HL.out]; simp; omega, rfl⟩
set_option maxHeartbeats 1000000 in
set_option maxRecDepth 100000 in
theorem nindex_any (w : World) (a : Option Addr) (c : Nat) (l : List Nat) (hl : l.length ≤ 64) (B' : Nat) (hu : Nums w B' a l) :
    Calls Tryz.prog 159 #[.slice a l.length c, .func (.func 108) #[] #[]] w fun e w' => e = .returned (.int .i64 (-1)) ∧ w = w' := by
  have HU := Lib.hid hu
  have HC := Lib.hid (fun (x : Nat) => nclos_any x w)
  clear hu
  go_enter Tryz.func159, Tryz.ntmps159
  go_wp2_with fail
  go_loop [5, 8] (fun _ i => ∃ j : Nat, j ≤ l.length ∧ i = .int .i64 j) (fun _ i => l.length - (intOf i).toNat)
  case atStart => exact ⟨0, by omega, rfl⟩
  case round =>
    obtain ⟨j, hj, rfl⟩ := hrel
    by_cases hlt : j < l.length
    · obtain ⟨b, off, rfl, hb, hcc⟩ := HU.out (fun e => by rw [e] at hlt; simp at hlt)
      have cj := hcc j hlt
      have HCX := Lib.hid (HC.out (l.getD j 0))
      generalize l.getD j 0 = x at *
      have hjI : (j : Int) < (l.length : Int) := by omega
      clear hcc
      go_wp2_with fail
      refine (HCX.out).mono ?_
      rintro e w1 ⟨rfl, rfl⟩
      go_wp2_with fail
      exact ⟨⟨j + 1, by omega, by go_num⟩, by simp [intOf]; omega⟩
    · obtain rfl : j = l.length := by omega
      go_wp2_with fail
      go_ret
      exact ⟨rfl, rfl⟩
def tidx (l : List (List UInt8)) : Int := if l.findIdx long < l.length then (l.findIdx long : Nat) else -1
set_option maxHeartbeats 1000000 in
set_option maxRecDepth 100000 in
theorem tindex_any (w : World) (a : Option Addr) (c : Nat) (l : List (List UInt8)) (hl : l.length ≤ 64) (B' : Nat) (hu : Txts w B' a l) :
    Calls Tryz.prog 168 #[.slice a l.length c, .func (.func 112) #[] #[]] w fun e w' => e = .returned (.int .i64 (tidx l)) ∧ w = w' := by
  have HU := Lib.hid hu
  have HST := Lib.hid (fun j h => idx_step long l j h)
  have HC := Lib.hid (fun x => show Calls Tryz.prog 112 #[.string (str x)] w (fun e w' => e = .returned (.bool (long x)) ∧ w = w') from tclos_any x w)
  have HI := Lib.hid (show tidx l = if l.findIdx long < l.length then ((l.findIdx long : Nat) : Int) else -1 from rfl)
  generalize tidx l = I at *
  generalize hp : long = p at *
  clear hu hp
  generalize hR : l.findIdx p = R at *
  have HR0 := Lib.hid (show R = 0 + (l.drop 0).findIdx p by rw [← hR]; simp)
  clear hR
  go_enter Tryz.func168, Tryz.ntmps168
  go_wp2_with fail
  go_loop [5, 8] (fun _ i => ∃ j : Nat, j ≤ l.length ∧ i = .int .i64 j ∧ Hid (R = j + (l.drop j).findIdx p)) (fun _ i => l.length - (intOf i).toNat)
  case atStart => exact ⟨0, by omega, rfl, HR0⟩
  case round =>
    obtain ⟨j, hj, rfl, HJ⟩ := hrel
    by_cases hlt : j < l.length
    · obtain ⟨b, off, rfl, hb, hcc⟩ := HU.out (fun e => by rw [e] at hlt; simp at hlt)
      have cj := hcc j hlt
      have hst := HST.out j hlt
      have HCX := Lib.hid (HC.out (l.getD j []))
      generalize l.getD j [] = x at *
      have hjI : (j : Int) < (l.length : Int) := by omega
      by_cases ho : p x = true
      · rw [ho, if_pos rfl] at hst
        rw [ho] at HCX
        have HRJ := Lib.hid (show I = j by rw [HI.out, if_pos (by rw [HJ.out, hst]; omega), HJ.out, hst, Nat.add_zero])
        clear hcc hst ho
        go_wp2_with fail
        refine (HCX.out).mono ?_
        rintro e w1 ⟨rfl, rfl⟩
        go_wp2_with fail
        go_ret
        exact ⟨by rw [HRJ.out]; rfl, rfl⟩
      · have ho' : p x = false := by simpa using ho
        rw [ho', if_neg (by simp)] at hst
        rw [ho'] at HCX
        have HN := Lib.hid (show R = (j + 1) + (l.drop (j + 1)).findIdx p by rw [HJ.out, hst]; omega)
        clear hcc hst ho ho'
        go_wp2_with fail
        refine (HCX.out).mono ?_
        rintro e w1 ⟨rfl, rfl⟩
        go_wp2_with fail
        exact ⟨⟨j + 1, by omega, by go_num, HN⟩, by simp [intOf]; omega⟩
    · obtain rfl : j = l.length := by omega
      have HRE := Lib.hid (show I = -1 by rw [HI.out, if_neg (by rw [HJ.out, List.drop_length]; simp)])
      go_wp2_with fail
      go_ret
      exact ⟨by rw [HRE.out]; rfl, rfl⟩
set_option maxHeartbeats 400000 in
theorem ncontains_any (w : World) (a : Option Addr) (c : Nat) (l : List Nat) (hl : l.length ≤ 64) (B' : Nat) (hu : Nums w B' a l) :
    Calls Tryz.prog 133 #[.slice a l.length c, .func (.func 108) #[] #[]] w fun e w' => e = .returned (.bool false) ∧ w = w' := by
  have HC := Lib.hid (nindex_any w a c l hl B' hu)
  clear hu
  go_enter Tryz.func133, Tryz.ntmps133
  go_wp2_with fail
  refine (HC.out).mono ?_
  rintro e w1 ⟨rfl, rfl⟩
  go_wp2_with fail
  go_ret
  exact ⟨rfl, rfl⟩
set_option maxHeartbeats 400000 in
theorem tcontains_any (w : World) (a : Option Addr) (c : Nat) (l : List (List UInt8)) (hl : l.length ≤ 64) (B' : Nat) (hu : Txts w B' a l) :
    Calls Tryz.prog 138 #[.slice a l.length c, .func (.func 112) #[] #[]] w fun e w' => e = .returned (.bool (decide (l.findIdx long < l.length))) ∧ w = w' := by
  have HC := Lib.hid (tindex_any w a c l hl B' hu)
  have HG := Lib.hid (show decide (0 ≤ tidx l) = decide (l.findIdx long < l.length) by unfold tidx; by_cases h : l.findIdx long < l.length <;> simp [h])
  generalize tidx l = I at *
  clear hu
  go_enter Tryz.func138, Tryz.ntmps138
  go_wp2_with fail
  refine (HC.out).mono ?_
  rintro e w1 ⟨rfl, rfl⟩
  go_wp2_with fail
  go_ret
  exact ⟨by rw [← HG.out]; rfl, rfl⟩
def nfitR (l : List Nat) : Nat := if 64 < l.length then 2 else 0
set_option maxHeartbeats 400000 in
theorem nfit_any (w : World) (a : Option Addr) (c : Nat) (l : List Nat) (B' : Nat) (hu : Nums w B' a l) :
    Calls Tryz.prog 107 #[.slice a l.length c, .func (.func 108) #[] #[]] w fun e w' => e = .returned (.int .i64 (nfitR l : Nat)) ∧ w = w' := by
  by_cases h : 64 < l.length
  · have HR := Lib.hid (show nfitR l = 2 from if_pos h)
    have g1 : decide ((64 : Int) < (l.length : Int)) = true := decide_eq_true (by omega)
    go_enter Tryz.func107, Tryz.ntmps107
    go_wp2_with fail
    go_ret
    exact ⟨by rw [HR.out]; rfl, rfl⟩
  have HR := Lib.hid (show nfitR l = 0 from if_neg h)
  have g1 : decide ((64 : Int) < (l.length : Int)) = false := decide_eq_false (by omega)
  have HC := Lib.hid (ncontains_any w a c l (by omega) B' hu)
  clear hu
  go_enter Tryz.func107, Tryz.ntmps107
  go_wp2_with fail
  refine (HC.out).mono ?_
  rintro e w1 ⟨rfl, rfl⟩
  go_wp2_with fail
  go_ret
  exact ⟨by rw [HR.out]; rfl, rfl⟩
set_option maxHeartbeats 400000 in
theorem tfit_any (w : World) (a : Option Addr) (c : Nat) (l : List (List UInt8)) (B' : Nat) (hu : Txts w B' a l) :
    Calls Tryz.prog 111 #[.slice a l.length c, .func (.func 112) #[] #[]] w fun e w' => e = .returned (.int .i64 (fitR l : Nat)) ∧ w = w' := by
  by_cases h : 64 < l.length
  · have HR := Lib.hid (show fitR l = 2 from if_pos (Or.inl h))
    have g1 : decide ((64 : Int) < (l.length : Int)) = true := decide_eq_true (by omega)
    go_enter Tryz.func111, Tryz.ntmps111
    go_wp2_with fail
    go_ret
    exact ⟨by rw [HR.out]; rfl, rfl⟩
  have g1 : decide ((64 : Int) < (l.length : Int)) = false := decide_eq_false (by omega)
  have hc := tcontains_any w a c l (by omega) B' hu
  by_cases h2 : l.findIdx long < l.length
  · have HR := Lib.hid (show fitR l = 2 from if_pos (Or.inr h2))
    rw [decide_eq_true h2] at hc
    have HC := Lib.hid hc
    clear hu hc h2
    go_enter Tryz.func111, Tryz.ntmps111
    go_wp2_with fail
    refine (HC.out).mono ?_
    rintro e w1 ⟨rfl, rfl⟩
    go_wp2_with fail
    go_ret
    exact ⟨by rw [HR.out]; rfl, rfl⟩
  · have HR := Lib.hid (show fitR l = 0 from if_neg (by omega))
    rw [decide_eq_false h2] at hc
    have HC := Lib.hid hc
    clear hu hc h2
    go_enter Tryz.func111, Tryz.ntmps111
    go_wp2_with fail
    refine (HC.out).mono ?_
    rintro e w1 ⟨rfl, rfl⟩
    go_wp2_with fail
    go_ret
    exact ⟨by rw [HR.out]; rfl, rfl⟩
set_option maxHeartbeats 400000 in
theorem clone_any (s : List UInt8) (w : World) (hs : s.length ≤ 1048576) :
    Calls Tryz.prog 198 #[.string (str s)] w (TextPost s w) := by
  have HC := Lib.hid (fun W => Tryz.stringslite_Clone (str s) W (by rw [str_size]; omega))
  unfold TextPost
  generalize str s = S at *
  go_enter Tryz.func198, Tryz.ntmps198
  go_wp2_with fail
  refine (HC.out _).mono ?_
  rintro e w1 ⟨rfl, hb⟩
  go_wp2_with fail
  go_ret
  exact ⟨rfl, hb⟩
end Go.Proofs.YtcachhnhncodoaaGreat
namespace Go.Proofs.YtcachhnhncodoaaGreat
open Go.RowKit
set_option linter.unusedVariables false
theorem flat_take (m ps : List Nat) (j : Nat) (h : j < ps.length) : (ps.take (j + 1)).flatMap (P.one m) = (ps.take j).flatMap (P.one m) ++ [UInt8.ofNat (ps.getD j 0)] ++ V.enc (m.getD (ps.getD j 0) 0) := by
  rw [List.take_succ_eq_append_getElem h, List.flatMap_append]
  simp [P.one, List.getD, List.getElem?_eq_getElem h]
theorem flat_len (m ps : List Nat) : (ps.flatMap (P.one m)).length ≤ 10 * ps.length := by
  induction ps with
  | nil => simp
  | cons x t ih =>
    have h : (P.one m x).length ≤ 10 := by unfold P.one; rw [List.length_cons, V.enc_length]; have := V.sz_le (m.getD x 0); omega
    rw [List.flatMap_cons, List.length_append, List.length_cons]; omega
theorem zer_take (m ps : List Nat) (j : Nat) (h : j < ps.length) : (P.zer m (ps.take j)).set (ps.getD j 0) 0 = P.zer m (ps.take (j + 1)) := by
  rw [P.zer_snoc, List.take_succ_eq_append_getElem h]; simp [List.getD, List.getElem?_eq_getElem h]
theorem zer_at (m ps : List Nat) (j : Nat) (h : j < ps.length) (hn : ps.Nodup) (hm : ps.getD j 0 < m.length) : (P.zer m (ps.take j)).getD (ps.getD j 0) 0 = m.getD (ps.getD j 0) 0 := by
  rw [P.zer_get _ _ _ hm, if_neg]
  intro hin
  have e : ps.getD j 0 = ps[j] := by simp [List.getD, List.getElem?_eq_getElem h]
  rw [e] at hin
  obtain ⟨i, hi, he⟩ := List.mem_iff_getElem.1 hin
  rw [List.length_take] at hi
  rw [List.getElem_take] at he
  exact absurd ((List.getElem_inj hn).1 he) (by omega)
def Rest (w3 : World) (A : Option Addr) (wr : World) : Prop := ∀ b o, b < w3.heap.size → A ≠ some ⟨b, 0, none⟩ → wr.cell? ⟨b, o, none⟩ = w3.cell? ⟨b, o, none⟩
theorem Rest.step {w3 wr w7 : World} {g : Nat} (h : Rest w3 (some ⟨g, 0, none⟩) wr) (hb : Below w3.heap.size wr w7) (i : Nat) (u : Value) : Rest w3 (some ⟨g, 0, none⟩) (w7.setCell ⟨g, i, none⟩ u) := by
  intro b o hlt hne
  have hbg : g ≠ b := fun e => hne (by rw [e])
  have e1 : (w7.setCell ⟨g, i, none⟩ u).cell? ⟨b, o, none⟩ = w7.cell? ⟨b, o, none⟩ := World.cell?_of_block (by simp [World.setCell, Array.getElem?_modify, hbg])
  rw [e1, hb.cell (p := ⟨b, o, none⟩) hlt]
  exact h b o hlt hne
theorem run_text2 (W : World) (g : Nat) (a b : Nat) (ha : a < 256) (hb : b < 256) (h0 : W.cell? ⟨g, 0, none⟩ = some (.int .u8 (a : Int))) (h1 : W.cell? ⟨g, 1, none⟩ = some (.int .u8 (b : Int))) :
    (convert 42 9 (.slice (some ⟨g, 0, none⟩) 2 2)).run Tryz.prog W = .ok (.string (str [UInt8.ofNat a, UInt8.ofNat b])) W := by
  rw [← str_of [UInt8.ofNat a, UInt8.ofNat b]]
  refine run_convert_bytes_arg _ 42 5 Tryz.underlying42 Tryz.underlying5 _ 0 2 2 _ (by simp) ?_ 9 Tryz.underlying9
  intro i hi
  have ea : ((UInt8.ofNat a).toNat : Int) = (a : Int) := by simp; omega
  have eb : ((UInt8.ofNat b).toNat : Int) = (b : Int) := by simp; omega
  match i, hi with
  | 0, _ => rw [h0]; simp only [List.map_cons, ea]; rfl
  | 1, _ => rw [h1]; simp only [List.map_cons, eb]; rfl
set_option maxHeartbeats 6000000 in
set_option maxRecDepth 100000 in
theorem pwrite_ok (a : Option Addr) (c : Nat) (l : List Nat) (w : World) (hl : l.length ≤ 64) (hx : ∀ x ∈ l, x < 18446744073709551616) (hu : Nums w w.heap.size a l) :
    Calls Tryz.prog 137 #[.slice a l.length c] w (PackPost (P.bytes l, 0) w) := by
  have hml := P.more_length l
  have hmx := P.more_lt l hx
  have hfr := frame_any a c l w hl hx hu
  have hbest := fun A c' W h => best_any A c' (P.more l) W (by omega) hmx h
  have hwd := P.best_le (P.more l)
  have hout := fun A c' W h => outside_any A c' (P.more l) (P.best (P.more l)) W hwd (by omega) h
  have hbl := P.base_lt l hx
  have hpk := fun A c' W h => pack_any A c' (P.ins (P.best (P.more l)) (P.more l)) (P.best (P.more l)) W (P.ins_lt _ _ hmx) h
  have hpr : packR (P.ins (P.best (P.more l)) (P.more l)) (P.best (P.more l)) = (H.pkd (P.best (P.more l)) (P.ins (P.best (P.more l)) (P.more l)), 0) := by
    unfold packR
    rw [if_neg (by omega), if_neg (by rw [P.ins_length]; omega), Int.toNat_natCast, if_neg (by have := (B.wd_le (P.ins (P.best (P.more l)) (P.more l)) (P.best (P.more l))).2 (P.ins_fit _ _); omega)]; rfl
  rw [hpr] at hpk
  have hil := P.ins_length (P.best (P.more l)) (P.more l)
  rw [hil, hml] at hpk
  rw [hml] at hbest hout
  have hpl := P.plc_len (P.out (P.best (P.more l))) 0 (P.more l)
  have hnd := P.plc_nodup (P.out (P.best (P.more l))) 0 (P.more l)
  have HPL := Lib.hid (fun a (h : a ∈ P.plc (P.out (P.best (P.more l))) 0 (P.more l)) => show a < l.length by have := (P.plc_lt (P.out (P.best (P.more l))) 0 (P.more l) a h).2; omega)
  have HZ := Lib.hid (P.zer_all (P.best (P.more l)) (P.more l))
  have HT := Lib.hid (P.tail_all (P.best (P.more l)) (P.more l))
  have hkl : (H.pkd (P.best (P.more l)) (P.ins (P.best (P.more l)) (P.more l))).length ≤ 512 := by
    rw [H.pkd_length, hil]
    have := Nat.mul_le_mul (show (P.more l).length ≤ 64 by omega) hwd
    unfold B.sz; omega
  have hres : P.bytes l = V.enc (P.base l) ++ [UInt8.ofNat (P.best (P.more l)), UInt8.ofNat (P.plc (P.out (P.best (P.more l))) 0 (P.more l)).length] ++ H.pkd (P.best (P.more l)) (P.ins (P.best (P.more l)) (P.more l)) ++ P.tail (P.best (P.more l)) 0 (P.more l) := rfl
  rw [hres]
  unfold FramePost at hfr
  generalize P.base l = bs at *
  generalize P.more l = mo at *
  generalize P.best mo = wd at *
  generalize P.plc (P.out wd) 0 mo = ps at *
  generalize P.ins wd mo = im at *
  generalize H.pkd wd im = kd at *
  generalize P.tail wd 0 mo = tl at *
  have HFR := Lib.hid hfr
  have HBEST := Lib.hid hbest
  have HOUT := Lib.hid hout
  have HPK := Lib.hid hpk
  have HRN := Lib.hid (fun (A : Option Addr) (n c' B : Nat) (xs : List Nat) (W : World) (h : NumRow B xs (.slice A n c') W) => show Nums W W.heap.size A xs by
    obtain ⟨a', c'', e, hn⟩ := numRow_nums h
    injection e with e1 e2 e3
    rw [e1]; exact hn)
  have HGM := Lib.hid (fun j (h : j < ps.length) => getD_mem ps j h)
  have HMX := Lib.hid (fun k (h : k < mo.length) => hmx _ (getD_mem mo k h))
  have HFT := Lib.hid (fun j h => flat_take mo ps j h)
  have HFL := Lib.hid (fun j => flat_len mo (ps.take j))
  have HZT := Lib.hid (fun j h => zer_take mo ps j h)
  have HZA := Lib.hid (fun j h hm => zer_at mo ps j h hnd hm)
  have HZL := Lib.hid (fun j => P.zer_length mo (ps.take j))
  have HZ0 := Lib.hid (show P.zer mo (ps.take 0) = mo from P.zer_nil mo)
  have HML := Lib.hid hml
  have g1 : decide ((64 : Int) < (l.length : Int)) = false := decide_eq_false (by omega)
  have hpll : ps.length ≤ l.length := by omega
  clear hfr hbest hout hpk hmx hx hu hpr hil hnd hres hml hpl
  go_enter Tryz.func137, Tryz.ntmps137
  go_wp2_with fail
  refine (HFR.out).mono ?_
  rintro e w1 ⟨a1, c1, rfl, r1, hb1⟩
  go_wp2_with fail
  refine (HBEST.out _ _ _ (HRN.out _ _ _ _ _ _ r1)).mono ?_
  rintro e w2 ⟨rfl, hb2⟩
  have r2 := r1.below hb2
  have h2 := below_then hb1 hb2
  go_wp2_with fail
  refine (HOUT.out _ _ _ (HRN.out _ _ _ _ _ _ r2)).mono ?_
  rintro e w3 ⟨a3, c3, rfl, p3, hb3⟩
  have r3 := r2.below hb3
  have h3 := below_then h2 hb3
  have P3 := Lib.hid p3
  have R2 := Lib.hid r2
  have hs2 := hb2.size
  have hs3 := hb3.size
  have hs1 := hb1.size
  clear r1 r2 p3
  go_wp2_with fail
  go_loopw [8, 10, 28] (fun v _ i wr => ∃ j : Nat, j ≤ ps.length ∧ i = .int .i64 j ∧ BRow w3.heap.size ((ps.take j).flatMap (P.one mo)) v wr ∧ NumRow w.heap.size (P.zer mo (ps.take j)) (.slice a1 l.length c1) wr ∧ Rest w3 a1 wr ∧ w3.heap.size ≤ wr.heap.size ∧ Below w.heap.size w wr) (fun _ _ i _ => ps.length - (intOf i).toNat)
  case atStart => exact ⟨0, by omega, rfl, BRow.nil_ _ _, by rw [HZ0.out]; exact r3, fun b o _ _ => rfl, Nat.le_refl _, h3⟩
  case round =>
    obtain ⟨j, hj, rfl, hbr, hnr, hrest, hsz, hbw⟩ := hrel
    by_cases hlt : j < ps.length
    · obtain ⟨g3, rfl, hcl3, hg3, hg3'⟩ := P3.out.form (fun e => by rw [e] at hlt; simp at hlt)
      have hpj := HPL.out _ (HGM.out j hlt)
      have cj0 := P3.out.cell j hlt
      have HF := Lib.hid (HFT.out j hlt)
      have HZJ := Lib.hid (HZT.out j hlt)
      have hza := HZA.out j hlt (by rw [HML.out]; exact hpj)
      have hfl := HFL.out j
      rw [List.length_take] at hfl
      have hzl := HZL.out j
      generalize ps.getD j 0 = p at *
      obtain ⟨g, rfl, hcl4, hgw, hg2⟩ := R2.out.form (fun e => by have := HML.out; rw [e] at this; simp at this; omega)
      clear hcl3 hcl4
      have hgg3 : g ≠ g3 := by omega
      have hg2 : g < w3.heap.size := by omega
      have cj : wr.cell? ⟨g3, j, none⟩ = some (.int .i64 (p : Int)) := (hrest g3 j hg3' (fun e => hgg3 (by injection e with e; injection e))).trans cj0
      have hxp := HMX.out p (by rw [HML.out]; exact hpj)
      have cp := hnr.cell p (by rw [hzl, HML.out]; exact hpj)
      rw [hza] at cp
      have fp := hnr.free p
      generalize mo.getD p 0 = x at *
      generalize (ps.take j).flatMap (P.one mo) = acc at *
      generalize P.zer mo (ps.take j) = zz at *
      have HWR := Lib.hid (fun W => write_any x W hxp)
      obtain ⟨t, ht⟩ : ∃ t, t = str (V.enc x) := ⟨_, rfl⟩
      have HW2 := Lib.hid (fun W => show Calls Tryz.prog 50 #[.int .u64 (x : Int)] W (fun e w' => e = .returned (.string t) ∧ Below W.heap.size W w') by rw [ht]; exact HWR.out W)
      have HTT := Lib.hid ht
      have hel := V.enc_length x
      have hs9 := V.sz_le x
      have hp8 : ((UInt8.ofNat p).toNat : Int) = (p : Int) := by simp; omega
      have hpw : IntKind.u8.wrap (p : Int) = (p : Int) := by rw [IntKind.wrap_u8]; omega
      have hpm : (p : Int) % 256 = (p : Int) := by omega
      have HBR := Lib.hid hbr
      have HNR := Lib.hid hnr
      have HREST := Lib.hid hrest
      have hjI : (j : Int) < (ps.length : Int) := by omega
      have hpI : (p : Int) < (l.length : Int) := by omega
      have hp8' := Lib.hid hp8
      have hgwr : g < wr.heap.size := by omega
      clear hbr hnr hrest ht HWR hp8 hza cj0 hgg3 hg3
      have hb5 : w3.heap.size ≤ (wr.alloc (.cells #[.int .u8 (p : Int)] 5)).heap.size := by simp; omega
      go_wp2_with (at_builtin; refine wpList_append_oneb rfl (.tmp 32) (.tmp 35) rfl w3.heap.size _ acc rfl (HBR.out.alloc_ _) wr.heap.size (UInt8.ofNat p) rfl (by rw [hp8'.out]; exact World.cell?_alloc_new _ _ _ _) (by omega) hb5 ?_)
      intro v5 w5 hbr5 hlow5
      have hA : Below w3.heap.size wr w5 := ((Below.refl _ wr).alloc hsz _).trans hlow5
      have c5 : w5.cell? ⟨g, p, none⟩ = some (.int .u64 (x : Int)) := (hA.cell (p := ⟨g, p, none⟩) hg2).trans cp
      have HBR5 := Lib.hid hbr5
      clear hbr5
      go_wp2_with fail
      refine (HW2.out _).mono ?_
      rintro e w6 ⟨rfl, hb6⟩
      have hB : Below w3.heap.size wr w6 := hA.trans (hb6.mono (by have := hA.size; omega))
      have hsz6 : w3.heap.size ≤ w6.heap.size := by have := hB.size; omega
      have HBR6 := Lib.hid (HBR5.out.below hb6)
      go_wp2_with (at_builtin; refine wpList_append_texts rfl (.tmp 37) (.tmp 42) rfl w3.heap.size _ (acc ++ [UInt8.ofNat p]) rfl HBR6.out t (V.enc x) HTT.out rfl ?_ hsz6 ?_)
      · rw [List.length_append, List.length_singleton]; omega
      intro v7 w7 hbr7 hlow7
      have hC : Below w3.heap.size wr w7 := hB.trans hlow7
      have c7 : w7.cell? ⟨g, p, none⟩ = some (.int .u64 (x : Int)) := (hC.cell (p := ⟨g, p, none⟩) hg2).trans cp
      have f7 : w7.frozen? ⟨g, p, none⟩ = false := (hC.frozen (p := ⟨g, p, none⟩) hg2).trans fp
      have HBR7 := Lib.hid hbr7
      have hszC := hC.size
      have HFIN := Lib.hid (show BRow w3.heap.size (acc ++ [UInt8.ofNat p] ++ V.enc x) v7 (w7.setCell ⟨g, p, none⟩ (.int .u64 ((0 : Nat) : Int))) by simpa using HBR7.out.far g p _ hg2)
      have HFN := Lib.hid ((HNR.out.keep (hC.block g hg2)).put p 0)
      have HFR := Lib.hid (HREST.out.step hC p (.int .u64 ((0 : Nat) : Int)))
      have HFB := Lib.hid ((hbw.trans (hC.mono (by omega))).setCell (p := ⟨g, p, none⟩) hgw (.int .u64 ((0 : Nat) : Int)))
      clear hbr7
      go_wp2_with fail
      exact ⟨⟨j + 1, by omega, by go_num, by rw [HF.out]; exact HFIN.out, by rw [← HZJ.out]; exact HFN.out, HFR.out, by simp; omega, HFB.out⟩, by simp [intOf]; omega⟩
    · obtain rfl : j = ps.length := by omega
      rw [List.take_length, HT.out] at hbr
      rw [List.take_length, HZ.out] at hnr
      have HBR := Lib.hid hbr
      have htl : tl.length ≤ 640 := by have := HFL.out ps.length; rw [List.take_length, HT.out] at this; omega
      obtain ⟨t1, ht1⟩ : ∃ t1, t1 = str (V.enc bs) := ⟨_, rfl⟩
      obtain ⟨t2, ht2⟩ : ∃ t2, t2 = str [UInt8.ofNat wd, UInt8.ofNat ps.length] := ⟨_, rfl⟩
      obtain ⟨t3, ht3⟩ : ∃ t3, t3 = str kd := ⟨_, rfl⟩
      obtain ⟨t4, ht4⟩ : ∃ t4, t4 = str tl := ⟨_, rfl⟩
      have HPKN := Lib.hid (show Calls Tryz.prog 43 #[.slice a1 l.length c1, .int .i64 wd] wr (fun e w' => e = .returned (.tuple #[.string t3, .int .i64 0]) ∧ Below wr.heap.size wr w') by rw [ht3]; exact HPK.out a1 c1 wr (HRN.out _ _ _ _ _ _ hnr))
      have hs1' : t1.size ≤ 9 := by rw [ht1, str_size, V.enc_length]; exact V.sz_le _
      have hs2' : t2.size = 2 := by rw [ht2]; rfl
      have hs3' : t3.size ≤ 512 := by rw [ht3, str_size]; exact hkl
      have hs4' : t4.size ≤ 640 := by rw [ht4, str_size]; exact htl
      have hcat1 : ¬ 9223372036854775807 < t1.size + 2 := by omega
      have hcat2 : ¬ 9223372036854775807 < t1.size + 2 + t3.size := by omega
      have hcat3 : ¬ 9223372036854775807 < t1.size + 2 + t3.size + t4.size := by omega
      have HSUM := Lib.hid (show t1 ++ t2 ++ t3 ++ t4 = str (V.enc bs ++ [UInt8.ofNat wd, UInt8.ofNat ps.length] ++ kd ++ tl) by rw [ht1, ht2, ht3, ht4, str_append, str_append, str_append])
      have HVW := Lib.hid (fun W => show Calls Tryz.prog 50 #[.int .u64 (bs : Nat)] W (fun e w' => e = .returned (.string t1) ∧ Below W.heap.size W w') by rw [ht1]; exact write_any bs W hbl)
      have hFW := fun W (h : BRow w3.heap.size tl u8 W) => h.text
      rw [← ht4] at hFW
      have HFW := Lib.hid hFW
      have hTW := fun W g h0 h1 => run_text2 W g wd ps.length (by omega) (by omega) h0 h1
      rw [← ht2] at hTW
      have HTW := Lib.hid hTW
      have hpw1 : IntKind.u8.wrap (wd : Int) = (wd : Int) := by rw [IntKind.wrap_u8]; omega
      have hpw2 : IntKind.u8.wrap (ps.length : Int) = (ps.length : Int) := by rw [IntKind.wrap_u8]; omega
      have hpm1 : (wd : Int) % 256 = (wd : Int) := by omega
      have hpm2 : (ps.length : Int) % 256 = (ps.length : Int) := by omega
      clear hbr hnr hrest ht1 ht2 ht3 ht4 hFW hTW
      go_wp2_with fail
      refine (HPKN.out).mono ?_
      rintro e w4 ⟨rfl, hb4⟩
      have HBR4 := Lib.hid (HBR.out.below hb4)
      have hF1 := HFW.out _ HBR4.out
      have hF2 := HFW.out _ HBR4.out.drew_
      have hF3 := fun X => HFW.out _ (HBR4.out.alloc_ X)
      have hF4 := fun X => HFW.out _ (HBR4.out.alloc_ X).drew_
      have hcv : ∀ (W : World) (g : Nat), g = W.heap.size → (convert 42 9 (.slice (some ⟨g, 0, none⟩) 2 2)).run Tryz.prog (W.alloc (.cells #[.int .u8 (wd : Int), .int .u8 (ps.length : Int)] 5)) = .ok (.string t2) (W.alloc (.cells #[.int .u8 (wd : Int), .int .u8 (ps.length : Int)] 5)) :=
        fun W g hg => HTW.out _ g (by rw [hg, World.cell?_alloc_new]; rfl) (by rw [hg, World.cell?_alloc_new]; rfl)
      have hcv2 : ∀ (W : World) (g : Nat), g = W.heap.size → (convert 42 9 (.slice (some ⟨g, 0, none⟩) 2 2)).run Tryz.prog (W.alloc (.cells #[.int .u8 (wd : Int), .int .u8 (ps.length : Int)] 5)).drew = .ok (.string t2) (W.alloc (.cells #[.int .u8 (wd : Int), .int .u8 (ps.length : Int)] 5)).drew :=
        fun W g hg => HTW.out _ g (show (W.alloc (.cells #[.int .u8 (wd : Int), .int .u8 (ps.length : Int)] 5)).cell? ⟨g, 0, none⟩ = _ by rw [hg, World.cell?_alloc_new]; rfl) (show (W.alloc (.cells #[.int .u8 (wd : Int), .int .u8 (ps.length : Int)] 5)).cell? ⟨g, 1, none⟩ = _ by rw [hg, World.cell?_alloc_new]; rfl)
      have h4 := below_then hbw hb4
      have hsz4 := h4.size
      go_wp2_with fail
      go_region_with (go_at_call 50; refine (HVW.out _).mono ?_; rintro e w5 ⟨rfl, hb5⟩; have hfin : Below w.heap.size w w5 := (by first | exact below_then h4 hb5 | exact below_then h4.drew hb5 | exact below_then (h4.alloc hsz4 _) hb5 | exact below_then (h4.alloc hsz4 _).drew hb5); have hbr5 : BRow w3.heap.size tl u8 w5 := (by first | exact HBR4.out.below hb5 | exact HBR4.out.drew_.below hb5 | exact (HBR4.out.alloc_ _).below hb5 | exact (HBR4.out.alloc_ _).drew_.below hb5); have hF5 := HFW.out _ hbr5; have hF6 := (fun X => HFW.out _ (hbr5.alloc_ X)); clear hbr5; try have hcg := HTW.out w5 w4.heap.size ((hb5.cell (p := ⟨w4.heap.size, 0, none⟩) (by simp)).trans (World.cell?_alloc_new w4 _ _ 0)) ((hb5.cell (p := ⟨w4.heap.size, 1, none⟩) (by simp)).trans (World.cell?_alloc_new w4 _ _ 1)))
      all_goals
        go_wp2_with fail
        go_ret2
        exact ⟨by rw [← HSUM.out]; rfl, by first | with_reducible exact hfin | exact hfin.alloc hfin.size _⟩
end Go.Proofs.YtcachhnhncodoaaGreat
namespace Go.Proofs.YtcachhnhncodoaaGreat
open Go.RowKit
set_option linter.unusedVariables false
def bstep (t s : List UInt8) : List UInt8 := if t.length ≤ s.length then t else s
def bestNW (l : List Nat) : List UInt8 := bstep (nbW 1 l) (bstep (nbW 2 l) (bstep (nbW 3 l) (nbW 4 l)))
theorem bstep_str (t s : List UInt8) : str (bstep t s) = if (str t).size ≤ (str s).size then str t else str s := by
  unfold bstep; rw [str_size, str_size]
  by_cases h : t.length ≤ s.length
  · rw [if_pos h, if_pos h]
  · rw [if_neg h, if_neg h]
set_option maxHeartbeats 2000000 in
set_option maxRecDepth 100000 in
theorem bestNumberBytes_any (a : Option Addr) (c : Nat) (l : List Nat) (w : World) (hl : l.length ≤ 64) (hcap : l.length ≤ c) (hcm : c ≤ maxLen) (hx : ∀ x ∈ l, x < 18446744073709551616) (hu : Nums w w.heap.size a l) :
    Calls Tryz.prog 38 #[.slice a l.length c] w (TextPost (bestNW l) w) := by
  have HN := Lib.hid (fun way (h : 1 ≤ way ∧ way ≤ 4) W (hb : Below w.heap.size w W) => numberBytes_any way a c l W h hl hcap hcm hx (hu.next hb))
  have H4 := Lib.hid (show ∀ W, Below w.heap.size w W → Calls Tryz.prog 68 #[.slice a l.length c, .int .i64 4] W (TextPost (nbW 4 l) W) from fun W hb => HN.out 4 (by omega) W hb)
  have H3 := Lib.hid (show ∀ W, Below w.heap.size w W → Calls Tryz.prog 68 #[.slice a l.length c, .int .i64 3] W (TextPost (nbW 3 l) W) from fun W hb => HN.out 3 (by omega) W hb)
  have H2 := Lib.hid (show ∀ W, Below w.heap.size w W → Calls Tryz.prog 68 #[.slice a l.length c, .int .i64 2] W (TextPost (nbW 2 l) W) from fun W hb => HN.out 2 (by omega) W hb)
  have H1 := Lib.hid (show ∀ W, Below w.heap.size w W → Calls Tryz.prog 68 #[.slice a l.length c, .int .i64 1] W (TextPost (nbW 1 l) W) from fun W hb => HN.out 1 (by omega) W hb)
  have hR : str (bestNW l) = _ := bstep_str (nbW 1 l) (bstep (nbW 2 l) (bstep (nbW 3 l) (nbW 4 l)))
  rw [bstep_str (nbW 2 l), bstep_str (nbW 3 l)] at hR
  have HR := Lib.hid hR
  unfold TextPost at H4 H3 H2 H1 ⊢
  generalize str (bestNW l) = R at *
  generalize str (nbW 4 l) = t4 at *
  generalize str (nbW 3 l) = t3 at *
  generalize str (nbW 2 l) = t2 at *
  generalize str (nbW 1 l) = t1 at *
  clear hR HN hx hu
  go_enter Tryz.func38, Tryz.ntmps38
  go_wp2_with fail
  refine (H4.out _ (Below.refl _ _)).mono ?_
  rintro e w4 ⟨rfl, hb4⟩
  go_wp2_with fail
  refine wp_loop_rounds 4 ?_
  rw [rounds_succ]
  go_wp2_with fail
  refine (H3.out _ hb4).mono ?_
  rintro e w3 ⟨rfl, hc3⟩
  have hb3 := below_then hb4 hc3
  by_cases d3 : t3.size ≤ t4.size
  · have e3 : decide ((t3.size : Int) ≤ (t4.size : Int)) = true := by exact decide_eq_true (by omega)
    skip
    go_wp2_with fail
    rw [rounds_succ]
    go_wp2_with fail
    refine (H2.out _ hb3).mono ?_
    rintro e w2 ⟨rfl, hc2⟩
    have hb2 := below_then hb3 hc2
    by_cases d2 : t2.size ≤ t3.size
    · have e2 : decide ((t2.size : Int) ≤ (t3.size : Int)) = true := by exact decide_eq_true (by omega)
      skip
      go_wp2_with fail
      rw [rounds_succ]
      go_wp2_with fail
      refine (H1.out _ hb2).mono ?_
      rintro e w1 ⟨rfl, hc1⟩
      have hb1 := below_then hb2 hc1
      by_cases d1 : t1.size ≤ t2.size
      · have e1 : decide ((t1.size : Int) ≤ (t2.size : Int)) = true := by exact decide_eq_true (by omega)
        go_wp2_with fail
        rw [rounds_succ]
        go_wp2_with fail
        go_ret
        exact ⟨by rw [HR.out, if_pos d3, if_pos d2, if_pos d1]; rfl, hb1⟩
      · have e1 : decide ((t1.size : Int) ≤ (t2.size : Int)) = false := by exact decide_eq_false (by omega)
        go_wp2_with fail
        rw [rounds_succ]
        go_wp2_with fail
        go_ret
        exact ⟨by rw [HR.out, if_pos d3, if_pos d2, if_neg d1]; rfl, hb1⟩
    · have e2 : decide ((t2.size : Int) ≤ (t3.size : Int)) = false := by exact decide_eq_false (by omega)
      skip
      go_wp2_with fail
      rw [rounds_succ]
      go_wp2_with fail
      refine (H1.out _ hb2).mono ?_
      rintro e w1 ⟨rfl, hc1⟩
      have hb1 := below_then hb2 hc1
      by_cases d1 : t1.size ≤ t3.size
      · have e1 : decide ((t1.size : Int) ≤ (t3.size : Int)) = true := by exact decide_eq_true (by omega)
        go_wp2_with fail
        rw [rounds_succ]
        go_wp2_with fail
        go_ret
        exact ⟨by rw [HR.out, if_pos d3, if_neg d2, if_pos d1]; rfl, hb1⟩
      · have e1 : decide ((t1.size : Int) ≤ (t3.size : Int)) = false := by exact decide_eq_false (by omega)
        go_wp2_with fail
        rw [rounds_succ]
        go_wp2_with fail
        go_ret
        exact ⟨by rw [HR.out, if_pos d3, if_neg d2, if_neg d1]; rfl, hb1⟩
  · have e3 : decide ((t3.size : Int) ≤ (t4.size : Int)) = false := by exact decide_eq_false (by omega)
    skip
    go_wp2_with fail
    rw [rounds_succ]
    go_wp2_with fail
    refine (H2.out _ hb3).mono ?_
    rintro e w2 ⟨rfl, hc2⟩
    have hb2 := below_then hb3 hc2
    by_cases d2 : t2.size ≤ t4.size
    · have e2 : decide ((t2.size : Int) ≤ (t4.size : Int)) = true := by exact decide_eq_true (by omega)
      skip
      go_wp2_with fail
      rw [rounds_succ]
      go_wp2_with fail
      refine (H1.out _ hb2).mono ?_
      rintro e w1 ⟨rfl, hc1⟩
      have hb1 := below_then hb2 hc1
      by_cases d1 : t1.size ≤ t2.size
      · have e1 : decide ((t1.size : Int) ≤ (t2.size : Int)) = true := by exact decide_eq_true (by omega)
        go_wp2_with fail
        rw [rounds_succ]
        go_wp2_with fail
        go_ret
        exact ⟨by rw [HR.out, if_neg d3, if_pos d2, if_pos d1]; rfl, hb1⟩
      · have e1 : decide ((t1.size : Int) ≤ (t2.size : Int)) = false := by exact decide_eq_false (by omega)
        go_wp2_with fail
        rw [rounds_succ]
        go_wp2_with fail
        go_ret
        exact ⟨by rw [HR.out, if_neg d3, if_pos d2, if_neg d1]; rfl, hb1⟩
    · have e2 : decide ((t2.size : Int) ≤ (t4.size : Int)) = false := by exact decide_eq_false (by omega)
      skip
      go_wp2_with fail
      rw [rounds_succ]
      go_wp2_with fail
      refine (H1.out _ hb2).mono ?_
      rintro e w1 ⟨rfl, hc1⟩
      have hb1 := below_then hb2 hc1
      by_cases d1 : t1.size ≤ t4.size
      · have e1 : decide ((t1.size : Int) ≤ (t4.size : Int)) = true := by exact decide_eq_true (by omega)
        go_wp2_with fail
        rw [rounds_succ]
        go_wp2_with fail
        go_ret
        exact ⟨by rw [HR.out, if_neg d3, if_neg d2, if_pos d1]; rfl, hb1⟩
      · have e1 : decide ((t1.size : Int) ≤ (t4.size : Int)) = false := by exact decide_eq_false (by omega)
        go_wp2_with fail
        rw [rounds_succ]
        go_wp2_with fail
        go_ret
        exact ⟨by rw [HR.out, if_neg d3, if_neg d2, if_neg d1]; rfl, hb1⟩
end Go.Proofs.YtcachhnhncodoaaGreat
namespace Go.Proofs.YtcachhnhncodoaaGreat
open Go.RowKit
set_option linter.unusedVariables false
set_option maxHeartbeats 1000000 in
set_option maxRecDepth 100000 in
theorem sayWide_pack (t : List UInt8) (a : Option Addr) (c : Nat) (l : List Nat) (w : World) (hl : l.length ≤ 64) (hx : ∀ x ∈ l, x < 18446744073709551616) (hu : Nums w w.heap.size a l) (ht : t.length ≤ 1048576)
    (HF : ∀ W, Below w.heap.size w W → Calls Tryz.prog 43 #[.slice a l.length c, .int .i64 (B.wd l)] W (PackPost (t, 0) W)) :
    Calls Tryz.prog 134 #[.slice a l.length c, .func (.func 43) #[] #[]] w (PackPost (UInt8.ofNat (B.wd l) :: t, 0) w) := by
  have hwd : B.wd l ≤ 64 := B.wd_64 l hx
  have HW := Lib.hid (width_any a c l w _ (by unfold maxLen; omega) hx hu)
  have HH := Lib.hid (fun W => headed_any (B.wd l) t 0 W (by omega) ht)
  have HP := Lib.hid (fun W (hb : Below w.heap.size w W) => HF W hb)
  have HR := Lib.hid (show headR (B.wd l) (t, 0) = (UInt8.ofNat (B.wd l) :: t, 0) from if_neg (by simp))
  clear HF hx hu hl ht
  generalize B.wd l = wd at *
  go_enter Tryz.func134, Tryz.ntmps134
  go_wp2_with fail
  refine (HW.out).mono ?_
  rintro e w1 ⟨rfl, rfl⟩
  go_wp2_with fail
  refine (HP.out _ (Below.refl _ _)).mono ?_
  rintro e w1 ⟨rfl, hb1⟩
  go_wp2_with fail
  refine (HH.out _).mono ?_
  rintro e w2 ⟨rfl, hb2⟩
  go_wp2_with fail
  go_ret2
  rw [HR.out]
  exact ⟨rfl, below_then hb1 hb2⟩
set_option maxHeartbeats 1000000 in
set_option maxRecDepth 100000 in
theorem sayWide_hy (t : List UInt8) (a : Option Addr) (c : Nat) (l : List Nat) (w : World) (hl : l.length ≤ 64) (hx : ∀ x ∈ l, x < 18446744073709551616) (hu : Nums w w.heap.size a l) (ht : t.length ≤ 1048576)
    (HF : ∀ W, Below w.heap.size w W → Calls Tryz.prog 135 #[.slice a l.length c, .int .i64 (B.wd l)] W (PackPost (t, 0) W)) :
    Calls Tryz.prog 134 #[.slice a l.length c, .func (.func 135) #[] #[]] w (PackPost (UInt8.ofNat (B.wd l) :: t, 0) w) := by
  have hwd : B.wd l ≤ 64 := B.wd_64 l hx
  have HW := Lib.hid (width_any a c l w _ (by unfold maxLen; omega) hx hu)
  have HH := Lib.hid (fun W => headed_any (B.wd l) t 0 W (by omega) ht)
  have HP := Lib.hid (fun W (hb : Below w.heap.size w W) => HF W hb)
  have HR := Lib.hid (show headR (B.wd l) (t, 0) = (UInt8.ofNat (B.wd l) :: t, 0) from if_neg (by simp))
  clear HF hx hu hl ht
  generalize B.wd l = wd at *
  go_enter Tryz.func134, Tryz.ntmps134
  go_wp2_with fail
  refine (HW.out).mono ?_
  rintro e w1 ⟨rfl, rfl⟩
  go_wp2_with fail
  refine (HP.out _ (Below.refl _ _)).mono ?_
  rintro e w1 ⟨rfl, hb1⟩
  go_wp2_with fail
  refine (HH.out _).mono ?_
  rintro e w2 ⟨rfl, hb2⟩
  go_wp2_with fail
  go_ret2
  rw [HR.out]
  exact ⟨rfl, below_then hb1 hb2⟩
def sayR (way : Nat) (l : List Nat) : List UInt8 :=
  if way = 1 then UInt8.ofNat (B.wd l) :: B.le (B.sz (l.length * B.wd l)) (B.pk (B.wd l) l)
  else if way = 2 then UInt8.ofNat (B.wd l) :: H.bytes (B.wd l) l
  else if way = 3 then dbytes l else P.bytes l
theorem nbW_say (way : Nat) (l : List Nat) (h : 1 ≤ way ∧ way ≤ 4) : nbW way l = UInt8.ofNat way :: sayR way l := by
  have h4 : way = 1 ∨ way = 2 ∨ way = 3 ∨ way = 4 := by omega
  rcases h4 with rfl | rfl | rfl | rfl <;> simp [nbW, sayR]
theorem packR_own (l : List Nat) (hl : l.length ≤ 64) (hx : ∀ x ∈ l, x < 18446744073709551616) : packR l (B.wd l : Nat) = (B.le (B.sz (l.length * B.wd l)) (B.pk (B.wd l) l), 0) := by
  have hwd : B.wd l ≤ 64 := B.wd_64 l hx
  unfold packR
  rw [if_neg (by omega), if_neg (by omega), Int.toNat_natCast, if_neg (by omega)]
theorem hwriteR_own (l : List Nat) (hl : l.length ≤ 64) (hx : ∀ x ∈ l, x < 18446744073709551616) : hwriteR l (B.wd l : Nat) = (H.bytes (B.wd l) l, 0) := by
  unfold hwriteR
  rw [packR_own l hl hx, if_neg (by simp), Int.toNat_natCast]
theorem say_len (way : Nat) (l : List Nat) (h : 1 ≤ way ∧ way ≤ 4) (hl : l.length ≤ 64) (hx : ∀ x ∈ l, x < 18446744073709551616) : (sayR way l).length ≤ 1048576 ∧ (B.le (B.sz (l.length * B.wd l)) (B.pk (B.wd l) l)).length ≤ 1048576 ∧ (H.bytes (B.wd l) l).length ≤ 1048576 := by
  have hwd : B.wd l ≤ 64 := B.wd_64 l hx
  have b1 : (B.le (B.sz (l.length * B.wd l)) (B.pk (B.wd l) l)).length ≤ 512 := by
    rw [B.le_length]; unfold B.sz
    have := Nat.mul_le_mul hl hwd
    omega
  have b2 : (H.bytes (B.wd l) l).length ≤ 100000 := by
    have := H.bytes_len (B.wd l) l
    have h5 : (18 + B.wd l) * l.length ≤ 82 * 64 := Nat.mul_le_mul (by omega) hl
    omega
  have b3 := dbytes_len l hl hx
  have b4 := pbytes_length l hl
  refine ⟨?_, by omega, by omega⟩
  have h4 : way = 1 ∨ way = 2 ∨ way = 3 ∨ way = 4 := by omega
  rcases h4 with rfl | rfl | rfl | rfl
  · show (UInt8.ofNat (B.wd l) :: _).length ≤ _; rw [List.length_cons]; omega
  · show (UInt8.ofNat (B.wd l) :: _).length ≤ _; rw [List.length_cons]; omega
  · show (dbytes l).length ≤ _; omega
  · show (P.bytes l).length ≤ _; omega
set_option maxHeartbeats 1000000 in
set_option maxRecDepth 100000 in
theorem sayNumbers_any (way : Nat) (a : Option Addr) (c : Nat) (l : List Nat) (w : World) (hway : 1 ≤ way ∧ way ≤ 4) (hl : l.length ≤ 64) (hcap : l.length ≤ c) (hcm : c ≤ maxLen) (hx : ∀ x ∈ l, x < 18446744073709551616) (hu : Nums w w.heap.size a l) :
    Calls Tryz.prog 109 #[.slice a l.length c, .int .i64 way] w (PackPost (sayR way l, 0) w) := by
  obtain ⟨_, b1, b2⟩ := say_len way l hway hl hx
  have HPK := Lib.hid (sayWide_pack _ a c l w hl hx hu b1 (fun W hb => by have h := pack_any a c l (B.wd l : Nat) W hx (hu.next hb); rw [packR_own l hl hx] at h; exact h))
  have HHY := Lib.hid (sayWide_hy _ a c l w hl hx hu b2 (fun W hb => by have h := hwrite_any a c l (B.wd l : Nat) W hcap hcm hx (hu.next hb); rw [hwriteR_own l hl hx] at h; exact h))
  have hdl := dwrite_any a c l w hx hu
  rw [show dwriteR l = (dbytes l, 0) from if_neg (by omega)] at hdl
  have HDL := Lib.hid hdl
  have HPA := Lib.hid (pwrite_ok a c l w hl hx hu)
  clear hdl hu hx b1 b2
  have h4 : way = 1 ∨ way = 2 ∨ way = 3 ∨ way = 4 := by omega
  rcases h4 with rfl | rfl | rfl | rfl
  · have HR := Lib.hid (show sayR 1 l = UInt8.ofNat (B.wd l) :: B.le (B.sz (l.length * B.wd l)) (B.pk (B.wd l) l) from rfl)
    generalize sayR 1 l = R at *
    clear HHY HDL HPA
    go_enter Tryz.func109, Tryz.ntmps109
    go_wp2_with fail
    refine (HPK.out).mono ?_
    rintro e w1 ⟨rfl, hb1⟩
    go_wp2_with fail
    go_ret2
    rw [HR.out]; exact ⟨rfl, hb1⟩
  · have HR := Lib.hid (show sayR 2 l = UInt8.ofNat (B.wd l) :: H.bytes (B.wd l) l from rfl)
    generalize sayR 2 l = R at *
    clear HPK HDL HPA
    go_enter Tryz.func109, Tryz.ntmps109
    go_wp2_with fail
    refine (HHY.out).mono ?_
    rintro e w1 ⟨rfl, hb1⟩
    go_wp2_with fail
    go_ret2
    rw [HR.out]; exact ⟨rfl, hb1⟩
  · have HR := Lib.hid (show sayR 3 l = dbytes l from rfl)
    generalize sayR 3 l = R at *
    clear HPK HHY HPA
    go_enter Tryz.func109, Tryz.ntmps109
    go_wp2_with fail
    refine (HDL.out).mono ?_
    rintro e w1 ⟨rfl, hb1⟩
    go_wp2_with fail
    go_ret2
    rw [HR.out]; exact ⟨rfl, hb1⟩
  · have HR := Lib.hid (show sayR 4 l = P.bytes l from rfl)
    generalize sayR 4 l = R at *
    clear HPK HHY HDL
    go_enter Tryz.func109, Tryz.ntmps109
    go_wp2_with fail
    refine (HPA.out).mono ?_
    rintro e w1 ⟨rfl, hb1⟩
    go_wp2_with fail
    go_ret2
    rw [HR.out]; exact ⟨rfl, hb1⟩
def numR (way : Int) (l : List Nat) : List UInt8 × Nat := if way < 1 ∨ 4 < way then ([], 7) else if 64 < l.length then ([], 2) else (nbW way.toNat l, 0)
set_option maxHeartbeats 1000000 in
set_option maxRecDepth 100000 in
theorem knumbers_any (way : Int) (a : Option Addr) (c : Nat) (l : List Nat) (w : World) (hcap : l.length ≤ c) (hcm : c ≤ maxLen) (hx : ∀ x ∈ l, x < 18446744073709551616) (hu : Nums w w.heap.size a l) :
    Calls Tryz.prog 76 #[.slice a l.length c, .int .i64 way] w (PackPost (numR way l) w) := by
  by_cases h0 : way < 1 ∨ 4 < way
  · have HR := Lib.hid (show numR way l = ([], 7) from if_pos h0)
    have hg : decide (way < 1) = true ∨ (decide (way < 1) = false ∧ decide (4 < way) = true) := by simp; omega
    clear h0
    rcases hg with g1 | ⟨g1, g2⟩
    all_goals
      go_enter Tryz.func76, Tryz.ntmps76
      go_wp2_with fail
      go_ret2
      rw [HR.out]; exact ⟨rfl, Below.refl _ _⟩
  have g1 : decide (way < 1) = false := by simp; omega
  have g2 : decide (4 < way) = false := by simp; omega
  have hfit := nfit_any w a c l _ hu
  by_cases h1 : 64 < l.length
  · have HR := Lib.hid (show numR way l = ([], 2) by unfold numR; rw [if_neg h0, if_pos h1])
    rw [show nfitR l = 2 from if_pos h1] at hfit
    have HF := Lib.hid hfit
    clear hfit h0 hu hx
    go_enter Tryz.func76, Tryz.ntmps76
    go_wp2_with fail
    refine (HF.out).mono ?_
    rintro e w1 ⟨rfl, rfl⟩
    go_wp2_with fail
    go_ret2
    rw [HR.out]; exact ⟨rfl, Below.refl _ _⟩
  obtain ⟨m, rfl⟩ : ∃ m : Nat, way = m := ⟨way.toNat, by omega⟩
  have hm : 1 ≤ m ∧ m ≤ 4 := by omega
  rw [show nfitR l = 0 from if_neg h1] at hfit
  have HF := Lib.hid hfit
  have hlen := (say_len m l hm (by omega) hx).1
  have HS := Lib.hid (sayNumbers_any m a c l w hm (by omega) hcap hcm hx hu)
  have HH := Lib.hid (fun W => headed_any m (sayR m l) 0 W (by omega) hlen)
  have HR := Lib.hid (show numR m l = (UInt8.ofNat m :: sayR m l, 0) by unfold numR; rw [if_neg h0, if_neg h1, Int.toNat_natCast, nbW_say m l hm])
  have HE := Lib.hid (show headR m (sayR m l, 0) = (UInt8.ofNat m :: sayR m l, 0) from if_neg (by simp))
  clear hfit h0 hu hx hlen
  generalize sayR m l = t at *
  go_enter Tryz.func76, Tryz.ntmps76
  go_wp2_with fail
  refine (HF.out).mono ?_
  rintro e w1 ⟨rfl, rfl⟩
  go_wp2_with fail
  refine (HS.out).mono ?_
  rintro e w1 ⟨rfl, hb1⟩
  go_wp2_with fail
  refine (HH.out _).mono ?_
  rintro e w2 ⟨rfl, hb2⟩
  go_wp2_with fail
  go_ret2
  rw [HR.out, HE.out]
  exact ⟨rfl, below_then hb1 hb2⟩
def lstep (s t : List UInt8) : List UInt8 := if t.length < s.length then t else s
theorem lstep_b (s t : List UInt8) : lstep s t = bstep s t := by
  unfold lstep bstep
  by_cases h : t.length < s.length
  · rw [if_pos h, if_neg (by omega)]
  · rw [if_neg h, if_pos (by omega)]
theorem bstep_assoc (a b c : List UInt8) : bstep (bstep a b) c = bstep a (bstep b c) := by
  unfold bstep
  by_cases h1 : a.length ≤ b.length <;> by_cases h2 : b.length ≤ c.length <;> by_cases h3 : a.length ≤ c.length <;> simp [h1, h2, h3] <;> omega
def bestNR (l : List Nat) : List UInt8 × Nat := if 64 < l.length then ([], 2) else (bestNW l, 0)
theorem bestNW_left (l : List Nat) : bestNW l = lstep (lstep (lstep (nbW 1 l) (nbW 2 l)) (nbW 3 l)) (nbW 4 l) := by
  simp only [lstep_b, bstep_assoc]; rfl
theorem lstep_str (s t : List UInt8) : str (lstep s t) = if (str t).size < (str s).size then str t else str s := by
  rw [str_size, str_size]; unfold lstep; split <;> rfl
def bstN (l : List Nat) : Nat → List UInt8
  | 0 => []
  | 1 => nbW 1 l
  | m + 2 => lstep (bstN l (m + 1)) (nbW (m + 2) l)
set_option maxHeartbeats 2000000 in
set_option maxRecDepth 100000 in
theorem kbestn_any (a : Option Addr) (c : Nat) (l : List Nat) (w : World) (hcap : l.length ≤ c) (hcm : c ≤ maxLen) (hx : ∀ x ∈ l, x < 18446744073709551616) (hu : Nums w w.heap.size a l) :
    Calls Tryz.prog 75 #[.slice a l.length c, .int .i64 1, .int .i64 4, .func (.func 76) #[] #[]] w (PackPost (bestNR l) w) := by
  have HK := fun (m : Nat) W (hb : Below w.heap.size w W) => knumbers_any m a c l W hcap hcm hx (hu.next hb)
  by_cases h1 : 64 < l.length
  · have HR := Lib.hid (show bestNR l = ([], 2) from if_pos h1)
    have HN := Lib.hid (fun W (hb : Below w.heap.size w W) => by have h := HK 1 W hb; rw [show numR ((1 : Nat) : Int) l = ([], 2) by unfold numR; rw [if_neg (by omega), if_pos h1]] at h; exact h)
    clear HK hu hx
    go_enter Tryz.func75, Tryz.ntmps75
    go_wp2_with fail
    refine wp_loop_rounds 1 ?_
    rw [rounds_succ]
    go_wp2_with fail
    refine (HN.out _ (Below.refl _ _)).mono ?_
    rintro e w1 ⟨rfl, hb1⟩
    go_wp2_with fail
    go_ret2
    rw [HR.out]; exact ⟨rfl, hb1⟩
  have HR := Lib.hid (show bestNR l = (bstN l 4, 0) by unfold bestNR; rw [if_neg h1, bestNW_left]; rfl)
  have HK2 := Lib.hid (fun (m : Nat) (hm : 1 ≤ m ∧ m ≤ 4) W (hb : Below w.heap.size w W) => show Calls Tryz.prog 76 #[.slice a l.length c, .int .i64 m] W (fun e w' => e = .returned (.tuple #[.string (str (nbW m l)), .int .i64 0]) ∧ Below W.heap.size W w') by
    have h := HK m W hb
    rw [show numR (m : Int) l = (nbW m l, 0) by unfold numR; rw [if_neg (by omega), if_neg h1, Int.toNat_natCast]] at h
    exact h)
  have HST := Lib.hid (fun (m : Nat) => show str (bstN l (m + 2)) = if (str (nbW (m + 2) l)).size < (str (bstN l (m + 1))).size then str (nbW (m + 2) l) else str (bstN l (m + 1)) from lstep_str _ _)
  have HS1 := Lib.hid (show str (bstN l 1) = str (nbW 1 l) from rfl)
  have HS0 := Lib.hid (show str (bstN l 0) = str [] from rfl)
  clear HK hu hx
  generalize hB : bstN l = B at *
  clear hB
  generalize hW : (fun m => nbW m l) = W at *
  go_enter Tryz.func75, Tryz.ntmps75
  go_wp2_with fail
  go_loopw [10, 11, 12, 13] (fun q i _ _ wr => ∃ m : Nat, m ≤ 4 ∧ i = .int .i64 ((m + 1 : Nat) : Int) ∧ q = .string (str (B m)) ∧ Below w.heap.size w wr) (fun _ i _ _ _ => 5 - (intOf i).toNat)
  case atStart => exact ⟨0, by omega, rfl, by rw [HS0.out]; rfl, Below.refl _ _⟩
  case round =>
    obtain ⟨m, hm, rfl, rfl, hb⟩ := hrel
    by_cases hlt : m < 4
    · have hc0 := HK2.out (m + 1) (by omega) _ hb
      obtain ⟨N, hN⟩ : ∃ N : Int, N = ((m + 1 : Nat) : Int) := ⟨_, rfl⟩
      obtain ⟨N2, hN2⟩ : ∃ N2 : Int, N2 = ((m + 1 + 1 : Nat) : Int) := ⟨_, rfl⟩
      have g0 : decide (N ≤ 4) = true := decide_eq_true (by omega)
      have hw1 : IntKind.i64.wrap (N + 1) = N2 := by rw [IntKind.wrap_i64]; omega
      have HN := Lib.hid hN
      have HN2 := Lib.hid hN2
      rw [← hN] at hc0 ⊢
      have hms : 5 - N2.toNat < 5 - N.toNat := by omega
      have HMS := Lib.hid hms
      clear hN2 hms
      by_cases h0 : m = 0
      · subst h0
        have g1 : (N == 1) = true := by rw [beq_iff_eq]; omega
        have HS := Lib.hid (show str (B 1) = _ from HS1.out)
        have HC := Lib.hid hc0
        clear hN hc0 hm hlt
        generalize str (nbW (0 + 1) l) = t at *
        generalize str (B 0) = u at *
        go_wp2_with fail
        refine (HC.out).mono ?_
        rintro e w1 ⟨rfl, hb1⟩
        go_wp2_with fail
        exact ⟨⟨1, by omega, by rw [HN2.out], by rw [HS.out], below_then hb hb1⟩, HMS.out⟩
      · obtain ⟨q, rfl⟩ : ∃ q, m = q + 1 := ⟨m - 1, by omega⟩
        have HS := Lib.hid (HST.out q)
        have g1 : (N == 1) = false := by rw [beq_eq_false_iff_ne]; omega
        have HLT := Lib.hid hlt
        clear hN hm h0 hlt
        rw [show q + 1 + 1 = q + 2 from rfl] at hc0
        generalize str (nbW (q + 2) l) = t at *
        generalize str (B (q + 1)) = u at *
        have HC := Lib.hid hc0
        clear hc0
        by_cases hc : t.size < u.size
        · have g2 : decide (t.size < u.size) = true := decide_eq_true hc
          rw [if_pos hc] at HS
          clear hc
          go_wp2_with fail
          refine (HC.out).mono ?_
          rintro e w1 ⟨rfl, hb1⟩
          go_wp2_with fail
          exact ⟨⟨q + 2, HLT.out, by rw [HN2.out], by rw [HS.out], below_then hb hb1⟩, HMS.out⟩
        · have g2 : decide (t.size < u.size) = false := decide_eq_false hc
          rw [if_neg hc] at HS
          clear hc
          go_wp2_with fail
          refine (HC.out).mono ?_
          rintro e w1 ⟨rfl, hb1⟩
          go_wp2_with fail
          exact ⟨⟨q + 2, HLT.out, by rw [HN2.out], by rw [HS.out], below_then hb hb1⟩, HMS.out⟩
    · obtain rfl : m = 4 := by omega
      have g0 : decide (((4 + 1 : Nat) : Int) ≤ 4) = false := decide_eq_false (by omega)
      go_wp2_with fail
      go_ret2
      rw [HR.out]; exact ⟨rfl, hb⟩
set_option maxHeartbeats 400000 in
theorem kbestNumbers_any (a : Option Addr) (c : Nat) (l : List Nat) (w : World) (hcap : l.length ≤ c) (hcm : c ≤ maxLen) (hx : ∀ x ∈ l, x < 18446744073709551616) (hu : Nums w w.heap.size a l) :
    Calls Tryz.prog 44 #[.slice a l.length c] w (PackPost (bestNR l) w) := by
  have HB := Lib.hid (kbestn_any a c l w hcap hcm hx hu)
  clear hu hx
  go_enter Tryz.func44, Tryz.ntmps44
  go_wp2_with fail
  refine (HB.out).mono ?_
  rintro e w1 ⟨rfl, hb1⟩
  go_wp2_with fail
  go_ret2
  exact ⟨rfl, hb1⟩
end Go.Proofs.YtcachhnhncodoaaGreat
namespace Go.Proofs.YtcachhnhncodoaaGreat
open Go.RowKit
set_option linter.unusedVariables false
set_option maxHeartbeats 2000000 in
set_option maxRecDepth 100000 in
theorem sayPlain_any (a : Option Addr) (c : Nat) (l : List (List UInt8)) (w : World) (hf : fitR l = 0) (hu : Txts w w.heap.size a l) :
    Calls Tryz.prog 139 #[.slice a l.length c] w (TextPost (plainB l) w) := by
  obtain ⟨hl, hx⟩ := fit_zero hf
  have HU := Lib.hid hu
  have HS := Lib.hid (fun j (h : j < l.length) => show plainB (l.take (j + 1)) = plainB (l.take j) ++ V.enc (l.getD j []).length ++ l.getD j [] by rw [plainB_snoc l j h, List.append_assoc])
  have HLL := Lib.hid (fun j => show (plainB (l.take j)).length ≤ 1600 by
    have := plainB_len (l.take j) (fun x hx' => hx x (List.mem_of_mem_take hx'))
    rw [List.length_take] at this; omega)
  have HXL := Lib.hid (fun j (h : j < l.length) => hx _ (tgetD_mem l j h))
  clear hu hx hf
  go_enter Tryz.func139, Tryz.ntmps139
  go_wp2_with fail
  go_loopw [3, 5, 8] (fun v _ i wr => ∃ j : Nat, j ≤ l.length ∧ i = .int .i64 j ∧ BRow w.heap.size (plainB (l.take j)) v wr ∧ Below w.heap.size w wr) (fun _ _ i _ => l.length - (intOf i).toNat)
  case atStart => exact ⟨0, by omega, rfl, BRow.nil_ _ _, Below.refl _ _⟩
  case round =>
    obtain ⟨j, hj, rfl, hbr, hbw⟩ := hrel
    by_cases hlt : j < l.length
    · obtain ⟨b, off, rfl, hb, hcc⟩ := HU.out (fun e => by rw [e] at hlt; simp at hlt)
      have cj := (hbw.cell (p := ⟨b, off + j, none⟩) hb).trans (hcc j hlt)
      have HSJ := Lib.hid (HS.out j hlt)
      have hlj := HLL.out j
      have hxl := HXL.out j hlt
      have hjI : (j : Int) < (l.length : Int) := by omega
      generalize l.getD j [] = x at *
      generalize plainB (l.take j) = acc at *
      have hsx := str_size x
      have hen : (V.enc x.length).length ≤ 9 := by rw [V.enc_length]; exact V.sz_le _
      have hV := fun W => write_any x.length W (by omega)
      unfold WritePost at hV
      rw [← hsx] at hV
      rw [← hsx] at HSJ hen
      have HX2 := Lib.hid (show ∃ X, X = str x from ⟨_, rfl⟩)
      obtain ⟨X, hX⟩ := HX2.out
      rw [← hX] at hsx hV cj HSJ hen
      have HX := Lib.hid hX
      generalize V.enc X.size = et at *
      have hw3 : IntKind.u64.wrap (X.size : Int) = (X.size : Int) := by rw [IntKind.wrap_u64]; omega
      have HV := Lib.hid hV
      have hx16 : x.length ≤ 16 := hxl
      clear hX hcc hV hxl HX2 hsx
      go_wp2_with fail
      refine (HV.out _).mono ?_
      rintro e w2 ⟨rfl, hb2⟩
      have hsw := hbw.size
      have hbr2 : BRow w.heap.size acc _ w2 := hbr.below hb2
      have hbw2 := below_then hbw hb2
      have HBR2 := Lib.hid hbr2
      have hsz2 : w.heap.size ≤ w2.heap.size := hbw2.size
      clear hbr hbr2 hb2
      go_wp2_with (at_builtin; refine wpList_append_texts rfl (.tmp 12) (.tmp 16) rfl w.heap.size _ acc rfl HBR2.out (str et) et rfl rfl (by omega) hsz2 ?_)
      intro v5 w5 hbr5 hlow5
      have HBR5 := Lib.hid hbr5
      have hsz5 : w.heap.size ≤ w5.heap.size := by have := hlow5.size; omega
      clear hbr5
      go_wp2_with (at_builtin; refine wpList_append_texts rfl (.tmp 18) (.tmp 19) rfl w.heap.size _ (acc ++ et) rfl HBR5.out X x HX.out rfl ?_ hsz5 ?_)
      · rw [List.length_append]; omega
      intro v6 w6 hbr6 hlow6
      have HBR6 := Lib.hid hbr6
      clear hbr6
      go_wp2_with fail
      exact ⟨⟨j + 1, by omega, by go_num, by rw [HSJ.out, List.append_assoc]; exact HBR6.out, (hbw2.trans hlow5).trans hlow6⟩, by simp [intOf]; omega⟩
    · obtain rfl : j = l.length := by omega
      rw [List.take_length] at hbr
      have ht := hbr.text
      clear hbr
      go_wp2_with fail
      go_ret
      exact ⟨rfl, hbw⟩
def bookB (l : List (List UInt8)) : List UInt8 := V.enc (T.bk l).length ++ B.le (B.sz (l.length * bw (T.bk l).length)) (B.pk (bw (T.bk l).length) (l.map (T.plc (T.bk l)))) ++ F.fb [] (T.bk l)
set_option maxHeartbeats 2000000 in
set_option maxRecDepth 100000 in
theorem sayBook_any (a : Option Addr) (c : Nat) (l : List (List UInt8)) (w : World) (hf : fitR l = 0) (hu : Txts w w.heap.size a l) :
    Calls Tryz.prog 140 #[.slice a l.length c] w (PackPost (bookB l, 0) w) := by
  obtain ⟨hl, hx⟩ := fit_zero hf
  have hO := dictOf_any a c l w hu
  rw [show ofR l = (T.bk l, l.map (T.plc (T.bk l)), 0) by unfold ofR; rw [if_neg (by rw [hf]; simp)]] at hO
  unfold OfPost at hO
  rw [List.length_map] at hO
  have hbl := bk_length l
  have hbk : (T.bk l).length ≤ 64 := by omega
  have HV := Lib.hid (fun W => show Calls Tryz.prog 50 #[.int .u64 ((T.bk l).length : Int)] W (fun e w' => e = .returned (.string (str (V.enc (T.bk l).length))) ∧ Below W.heap.size W w') from write_any (T.bk l).length W (by omega))
  have HW := Lib.hid (fun W => wideOf_any (T.bk l).length W hbk)
  have hcl : ∀ x ∈ l.map (T.plc (T.bk l)), x < (T.bk l).length := fun x h => by
    obtain ⟨y, hy, rfl⟩ := List.mem_map.1 h
    exact (code_lt hy).1
  have hcl2 : ∀ x ∈ l.map (T.plc (T.bk l)), x < 2 ^ bw (T.bk l).length := fun x h => bw_fit (hcl x h)
  have hbw := bw_le _ hbk
  have hpr : packR (l.map (T.plc (T.bk l))) (bw (T.bk l).length : Nat) = (B.le (B.sz (l.length * bw (T.bk l).length)) (B.pk (bw (T.bk l).length) (l.map (T.plc (T.bk l)))), 0) := by
    unfold packR
    have hw := (B.wd_le _ _).2 hcl2
    rw [if_neg (by omega), List.length_map, if_neg (by omega), Int.toNat_natCast, if_neg (by omega)]
  have hP := fun a2 c2 W (h : Nums W W.heap.size a2 (l.map (T.plc (T.bk l)))) => pack_any a2 c2 (l.map (T.plc (T.bk l))) (bw (T.bk l).length : Nat) W (fun x h => by have := hcl x h; omega) h
  rw [hpr, List.length_map] at hP
  have hF := fun a3 c3 W (h : Txts W W.heap.size a3 (T.bk l)) => fwrite_any a3 c3 (T.bk l) W h
  rw [show fwR (T.bk l) = (F.fb [] (T.bk l), 0) by unfold fwR; rw [if_neg (by rw [bk_fit hf]; simp)]] at hF
  have HR := Lib.hid (show str (bookB l) = str (V.enc (T.bk l).length) ++ str (B.le (B.sz (l.length * bw (T.bk l).length)) (B.pk (bw (T.bk l).length) (l.map (T.plc (T.bk l))))) ++ str (F.fb [] (T.bk l)) by rw [text_cat, text_cat]; rfl)
  have s2 : (str (V.enc (T.bk l).length)).size ≤ 9 := by rw [str_size, V.enc_length]; exact V.sz_le _
  have s3 : (str (B.le (B.sz (l.length * bw (T.bk l).length)) (B.pk (bw (T.bk l).length) (l.map (T.plc (T.bk l)))))).size ≤ 1048576 := by
    rw [str_size, B.le_length]; unfold B.sz
    have := Nat.mul_le_mul hl hbw
    omega
  have s4 : (str (F.fb [] (T.bk l))).size ≤ 1048576 := by
    rw [str_size]
    have := fb_bound (T.bk l) [] (fit_zero (bk_fit hf)).2
    omega
  unfold PackPost at hP ⊢
  unfold FwPost at hF
  simp only at hP hF hO ⊢
  have HP := Lib.hid hP
  have HF := Lib.hid hF
  have HO := Lib.hid hO
  clear hP hF hO hpr
  generalize str (bookB l) = R at *
  generalize l.map (T.plc (T.bk l)) = cs at *
  generalize T.bk l = bk at *
  generalize bw bk.length = wd at *
  generalize str (V.enc bk.length) = t2 at *
  generalize str (B.le (B.sz (l.length * wd)) (B.pk wd cs)) = t3 at *
  generalize str (F.fb [] bk) = t4 at *
  have c2 : ¬ 9223372036854775807 < t2.size + t3.size := by omega
  have c3 : ¬ 9223372036854775807 < t2.size + t3.size + t4.size := by omega
  have hw3 : IntKind.u64.wrap (bk.length : Int) = (bk.length : Int) := by rw [IntKind.wrap_u64]; omega
  clear s2 s3 s4 hx hu hf hcl hcl2
  go_enter Tryz.func140, Tryz.ntmps140
  go_wp2_with fail
  refine (HO.out).mono ?_
  rintro e w1 ⟨ab, cb, ac, cc, rfl, hT, hN, hb1⟩
  go_wp2_with fail
  refine (HW.out _).mono ?_
  rintro e w2 ⟨rfl, hb2⟩
  go_wp2_with fail
  refine (HP.out _ _ _ (hN.next hb2)).mono ?_
  rintro e w3 ⟨rfl, hb3⟩
  have r3 := below_then hb2 hb3
  go_wp2_with fail
  refine (HF.out _ _ _ (hT.next r3)).mono ?_
  rintro e w4 ⟨rfl, hb4⟩
  have r4 := below_then r3 hb4
  go_wp2_with fail
  refine (HV.out _).mono ?_
  rintro e w5 ⟨rfl, hb5⟩
  go_wp2_with fail
  go_ret2
  exact ⟨by rw [HR.out]; rfl, below_then (below_then hb1 r4) hb5⟩
def sayT (way : Nat) (l : List (List UInt8)) : List UInt8 := if way = 5 then plainB l else if way = 6 then bookB l else F.fb [] l
theorem txB_say (way : Nat) (l : List (List UInt8)) (h : 5 ≤ way ∧ way ≤ 7) : txB way l = UInt8.ofNat way :: sayT way l := by
  have h4 : way = 5 ∨ way = 6 ∨ way = 7 := by omega
  rcases h4 with rfl | rfl | rfl <;> simp [txB, sayT, bookB]
theorem sayT_len (way : Nat) (l : List (List UInt8)) (h : 5 ≤ way ∧ way ≤ 7) (hf : fitR l = 0) : (sayT way l).length ≤ 1048576 := by
  obtain ⟨hl, hx⟩ := fit_zero hf
  have h4 : way = 5 ∨ way = 6 ∨ way = 7 := by omega
  rcases h4 with rfl | rfl | rfl
  · show (plainB l).length ≤ _
    have := plainB_len l hx
    omega
  · show (bookB l).length ≤ _
    have hbl := bk_length l
    have hbk : (T.bk l).length ≤ 64 := by omega
    have := V.sz_le (T.bk l).length
    have h5 := fb_bound (T.bk l) [] (fit_zero (bk_fit hf)).2
    have h6 := Nat.mul_le_mul hl (bw_le _ hbk)
    unfold bookB
    rw [List.length_append, List.length_append, V.enc_length, B.le_length]
    unfold B.sz
    omega
  · show (F.fb [] l).length ≤ _
    have h5 := fb_bound l [] hx
    omega
set_option maxHeartbeats 1000000 in
set_option maxRecDepth 100000 in
theorem sayTexts_any (way : Nat) (a : Option Addr) (c : Nat) (l : List (List UInt8)) (w : World) (hway : 5 ≤ way ∧ way ≤ 7) (hf : fitR l = 0) (hu : Txts w w.heap.size a l) :
    Calls Tryz.prog 113 #[.slice a l.length c, .int .i64 way] w (PackPost (sayT way l, 0) w) := by
  have hP := sayPlain_any a c l w hf hu
  have HB := Lib.hid (sayBook_any a c l w hf hu)
  have hF := fwrite_any a c l w hu
  rw [show fwR l = (F.fb [] l, 0) by unfold fwR; rw [if_neg (by rw [hf]; simp)]] at hF
  have HP := Lib.hid hP
  have HF := Lib.hid hF
  clear hP hF hu
  have h4 : way = 5 ∨ way = 6 ∨ way = 7 := by omega
  rcases h4 with rfl | rfl | rfl
  · have HR := Lib.hid (show sayT 5 l = plainB l from rfl)
    generalize sayT 5 l = R at *
    clear HB HF
    go_enter Tryz.func113, Tryz.ntmps113
    go_wp2_with fail
    refine (HP.out).mono ?_
    rintro e w1 ⟨rfl, hb1⟩
    go_wp2_with fail
    go_ret2
    rw [HR.out]; exact ⟨rfl, hb1⟩
  · have HR := Lib.hid (show sayT 6 l = bookB l from rfl)
    generalize sayT 6 l = R at *
    clear HP HF
    go_enter Tryz.func113, Tryz.ntmps113
    go_wp2_with fail
    refine (HB.out).mono ?_
    rintro e w1 ⟨rfl, hb1⟩
    go_wp2_with fail
    go_ret2
    rw [HR.out]; exact ⟨rfl, hb1⟩
  · have HR := Lib.hid (show sayT 7 l = F.fb [] l from rfl)
    generalize sayT 7 l = R at *
    clear HP HB
    go_enter Tryz.func113, Tryz.ntmps113
    go_wp2_with fail
    refine (HF.out).mono ?_
    rintro e w1 ⟨rfl, hb1⟩
    go_wp2_with fail
    go_ret2
    rw [HR.out]; exact ⟨rfl, hb1⟩
def txtR (way : Int) (l : List (List UInt8)) : List UInt8 × Nat := if way < 5 ∨ 7 < way then ([], 7) else if fitR l ≠ 0 then ([], 2) else (txB way.toNat l, 0)
theorem fitR_two {l : List (List UInt8)} (h : fitR l ≠ 0) : fitR l = 2 := by
  unfold fitR at *
  by_cases e : 64 < l.length ∨ l.findIdx long < l.length
  · rw [if_pos e]
  · rw [if_neg e] at h; exact absurd rfl h
set_option maxHeartbeats 1000000 in
set_option maxRecDepth 100000 in
theorem ktexts_any (way : Int) (a : Option Addr) (c : Nat) (l : List (List UInt8)) (w : World) (hu : Txts w w.heap.size a l) :
    Calls Tryz.prog 78 #[.slice a l.length c, .int .i64 way] w (PackPost (txtR way l) w) := by
  by_cases h0 : way < 5 ∨ 7 < way
  · have HR := Lib.hid (show txtR way l = ([], 7) from if_pos h0)
    have hg : decide (way < 5) = true ∨ (decide (way < 5) = false ∧ decide (7 < way) = true) := by simp; omega
    clear h0
    rcases hg with g1 | ⟨g1, g2⟩
    all_goals
      go_enter Tryz.func78, Tryz.ntmps78
      go_wp2_with fail
      go_ret2
      rw [HR.out]; exact ⟨rfl, Below.refl _ _⟩
  have g1 : decide (way < 5) = false := by simp; omega
  have g2 : decide (7 < way) = false := by simp; omega
  have hfit := tfit_any w a c l _ hu
  by_cases h1 : fitR l ≠ 0
  · have HR := Lib.hid (show txtR way l = ([], 2) by unfold txtR; rw [if_neg h0, if_pos h1])
    rw [fitR_two h1] at hfit
    have HF := Lib.hid hfit
    clear hfit h0 hu h1
    go_enter Tryz.func78, Tryz.ntmps78
    go_wp2_with fail
    refine (HF.out).mono ?_
    rintro e w1 ⟨rfl, rfl⟩
    go_wp2_with fail
    go_ret2
    rw [HR.out]; exact ⟨rfl, Below.refl _ _⟩
  obtain ⟨m, rfl⟩ : ∃ m : Nat, way = m := ⟨way.toNat, by omega⟩
  have hm : 5 ≤ m ∧ m ≤ 7 := by omega
  have hf : fitR l = 0 := Decidable.not_not.1 h1
  rw [hf] at hfit
  have HF := Lib.hid hfit
  have hlen := sayT_len m l hm hf
  have HS := Lib.hid (sayTexts_any m a c l w hm hf hu)
  have HH := Lib.hid (fun W => headed_any m (sayT m l) 0 W (by omega) hlen)
  have HR := Lib.hid (show txtR m l = (UInt8.ofNat m :: sayT m l, 0) by unfold txtR; rw [if_neg h0, if_neg h1, Int.toNat_natCast, txB_say m l hm])
  have HE := Lib.hid (show headR m (sayT m l, 0) = (UInt8.ofNat m :: sayT m l, 0) from if_neg (by simp))
  clear hfit h0 hu hlen h1 hf
  generalize sayT m l = t at *
  go_enter Tryz.func78, Tryz.ntmps78
  go_wp2_with fail
  refine (HF.out).mono ?_
  rintro e w1 ⟨rfl, rfl⟩
  go_wp2_with fail
  refine (HS.out).mono ?_
  rintro e w1 ⟨rfl, hb1⟩
  go_wp2_with fail
  refine (HH.out _).mono ?_
  rintro e w2 ⟨rfl, hb2⟩
  go_wp2_with fail
  go_ret2
  rw [HR.out, HE.out]
  exact ⟨rfl, below_then hb1 hb2⟩
end Go.Proofs.YtcachhnhncodoaaGreat
namespace Go.Proofs.YtcachhnhncodoaaGreat
open Go.RowKit
set_option linter.unusedVariables false
def bestTW (l : List (List UInt8)) : List UInt8 := bstep (txB 5 l) (bstep (txB 6 l) (txB 7 l))
set_option maxHeartbeats 2000000 in
set_option maxRecDepth 100000 in
theorem bestTextBytes_any (a : Option Addr) (c : Nat) (l : List (List UInt8)) (w : World) (hf : fitR l = 0) (hu : Txts w w.heap.size a l) :
    Calls Tryz.prog 40 #[.slice a l.length c] w (TextPost (bestTW l) w) := by
  have H4 := Lib.hid (fun W (hb : Below w.heap.size w W) => textBytes7_any a c l W hf (hu.next hb))
  have H3 := Lib.hid (fun W (hb : Below w.heap.size w W) => textBytes6_any a c l W hf (hu.next hb))
  have H2 := Lib.hid (fun W (hb : Below w.heap.size w W) => textBytes5_any a c l W hf (hu.next hb))
  have hR : str (bestTW l) = _ := bstep_str (txB 5 l) (bstep (txB 6 l) (txB 7 l))
  rw [bstep_str (txB 6 l)] at hR
  have HR := Lib.hid hR
  unfold TextPost at H4 H3 H2 ⊢
  generalize str (bestTW l) = R at *
  generalize str (txB 7 l) = t4 at *
  generalize str (txB 6 l) = t3 at *
  generalize str (txB 5 l) = t2 at *
  clear hR hu hf
  go_enter Tryz.func40, Tryz.ntmps40
  go_wp2_with fail
  refine (H4.out _ (Below.refl _ _)).mono ?_
  rintro e w4 ⟨rfl, hb4⟩
  go_wp2_with fail
  refine wp_loop_rounds 3 ?_
  rw [rounds_succ]
  go_wp2_with fail
  refine (H3.out _ hb4).mono ?_
  rintro e w3 ⟨rfl, hc3⟩
  have hb3 := below_then hb4 hc3
  by_cases d3 : t3.size ≤ t4.size
  · have e3 : decide ((t3.size : Int) ≤ (t4.size : Int)) = true := by exact decide_eq_true (by omega)
    skip
    go_wp2_with fail
    rw [rounds_succ]
    go_wp2_with fail
    refine (H2.out _ hb3).mono ?_
    rintro e w2 ⟨rfl, hc2⟩
    have hb2 := below_then hb3 hc2
    by_cases d2 : t2.size ≤ t3.size
    · have e2 : decide ((t2.size : Int) ≤ (t3.size : Int)) = true := by exact decide_eq_true (by omega)
      go_wp2_with fail
      rw [rounds_succ]
      go_wp2_with fail
      go_ret
      exact ⟨by rw [HR.out, if_pos d3, if_pos d2]; rfl, hb2⟩
    · have e2 : decide ((t2.size : Int) ≤ (t3.size : Int)) = false := by exact decide_eq_false (by omega)
      go_wp2_with fail
      rw [rounds_succ]
      go_wp2_with fail
      go_ret
      exact ⟨by rw [HR.out, if_pos d3, if_neg d2]; rfl, hb2⟩
  · have e3 : decide ((t3.size : Int) ≤ (t4.size : Int)) = false := by exact decide_eq_false (by omega)
    skip
    go_wp2_with fail
    rw [rounds_succ]
    go_wp2_with fail
    refine (H2.out _ hb3).mono ?_
    rintro e w2 ⟨rfl, hc2⟩
    have hb2 := below_then hb3 hc2
    by_cases d2 : t2.size ≤ t4.size
    · have e2 : decide ((t2.size : Int) ≤ (t4.size : Int)) = true := by exact decide_eq_true (by omega)
      go_wp2_with fail
      rw [rounds_succ]
      go_wp2_with fail
      go_ret
      exact ⟨by rw [HR.out, if_neg d3, if_pos d2]; rfl, hb2⟩
    · have e2 : decide ((t2.size : Int) ≤ (t4.size : Int)) = false := by exact decide_eq_false (by omega)
      go_wp2_with fail
      rw [rounds_succ]
      go_wp2_with fail
      go_ret
      exact ⟨by rw [HR.out, if_neg d3, if_neg d2]; rfl, hb2⟩
end Go.Proofs.YtcachhnhncodoaaGreat
namespace Go.Proofs.YtcachhnhncodoaaGreat
open Go.RowKit
set_option linter.unusedVariables false
def bestTR (l : List (List UInt8)) : List UInt8 × Nat := if fitR l ≠ 0 then ([], 2) else (bestTW l, 0)
theorem bestTW_left (l : List (List UInt8)) : bestTW l = lstep (lstep (txB 5 l) (txB 6 l)) (txB 7 l) := by
  simp only [lstep_b, bstep_assoc]; rfl
def bstT (l : List (List UInt8)) : Nat → List UInt8
  | 0 => []
  | 1 => txB 5 l
  | m + 2 => lstep (bstT l (m + 1)) (txB (m + 6) l)
set_option maxHeartbeats 2000000 in
set_option maxRecDepth 100000 in
theorem kbestt_any (a : Option Addr) (c : Nat) (l : List (List UInt8)) (w : World) (hu : Txts w w.heap.size a l) :
    Calls Tryz.prog 77 #[.slice a l.length c, .int .i64 5, .int .i64 7, .func (.func 78) #[] #[]] w (PackPost (bestTR l) w) := by
  have HK := fun (m : Nat) W (hb : Below w.heap.size w W) => ktexts_any m a c l W (hu.next hb)
  by_cases h1 : fitR l ≠ 0
  · have HR := Lib.hid (show bestTR l = ([], 2) from if_pos h1)
    have HN := Lib.hid (fun W (hb : Below w.heap.size w W) => by have h := HK 5 W hb; rw [show txtR ((5 : Nat) : Int) l = ([], 2) by unfold txtR; rw [if_neg (by omega), if_pos h1]] at h; exact h)
    clear HK hu
    go_enter Tryz.func77, Tryz.ntmps77
    go_wp2_with fail
    refine wp_loop_rounds 1 ?_
    rw [rounds_succ]
    go_wp2_with fail
    refine (HN.out _ (Below.refl _ _)).mono ?_
    rintro e w1 ⟨rfl, hb1⟩
    go_wp2_with fail
    go_ret2
    rw [HR.out]; exact ⟨rfl, hb1⟩
  have HR := Lib.hid (show bestTR l = (bstT l 3, 0) by unfold bestTR; rw [if_neg h1, bestTW_left]; rfl)
  have HK2 := Lib.hid (fun (m : Nat) (hm : 5 ≤ m ∧ m ≤ 7) W (hb : Below w.heap.size w W) => show Calls Tryz.prog 78 #[.slice a l.length c, .int .i64 m] W (fun e w' => e = .returned (.tuple #[.string (str (txB m l)), .int .i64 0]) ∧ Below W.heap.size W w') by
    have h := HK m W hb
    rw [show txtR (m : Int) l = (txB m l, 0) by unfold txtR; rw [if_neg (by omega), if_neg h1, Int.toNat_natCast]] at h
    exact h)
  have HST := Lib.hid (fun (m : Nat) => show str (bstT l (m + 2)) = if (str (txB (m + 6) l)).size < (str (bstT l (m + 1))).size then str (txB (m + 6) l) else str (bstT l (m + 1)) from lstep_str _ _)
  have HS1 := Lib.hid (show str (bstT l 1) = str (txB 5 l) from rfl)
  have HS0 := Lib.hid (show str (bstT l 0) = str [] from rfl)
  clear HK hu
  generalize hB : bstT l = B at *
  clear hB
  go_enter Tryz.func77, Tryz.ntmps77
  go_wp2_with fail
  go_loopw [10, 11, 12, 13] (fun q i _ _ wr => ∃ m : Nat, m ≤ 3 ∧ i = .int .i64 ((m + 5 : Nat) : Int) ∧ q = .string (str (B m)) ∧ Below w.heap.size w wr) (fun _ i _ _ _ => 8 - (intOf i).toNat)
  case atStart => exact ⟨0, by omega, rfl, by rw [HS0.out]; rfl, Below.refl _ _⟩
  case round =>
    obtain ⟨m, hm, rfl, rfl, hb⟩ := hrel
    by_cases hlt : m < 3
    · have hc0 := HK2.out (m + 5) (by omega) _ hb
      obtain ⟨N, hN⟩ : ∃ N : Int, N = ((m + 5 : Nat) : Int) := ⟨_, rfl⟩
      obtain ⟨N2, hN2⟩ : ∃ N2 : Int, N2 = ((m + 5 + 1 : Nat) : Int) := ⟨_, rfl⟩
      have g0 : decide (N ≤ 7) = true := decide_eq_true (by omega)
      have hw1 : IntKind.i64.wrap (N + 1) = N2 := by rw [IntKind.wrap_i64]; omega
      have HN := Lib.hid hN
      have HN2 := Lib.hid hN2
      rw [← hN] at hc0 ⊢
      have hms : 8 - N2.toNat < 8 - N.toNat := by omega
      have HMS := Lib.hid hms
      clear hN2 hms
      by_cases h0 : m = 0
      · subst h0
        have g1 : (N == 5) = true := by rw [beq_iff_eq]; omega
        have HS := Lib.hid (show str (B 1) = _ from HS1.out)
        have HC := Lib.hid hc0
        clear hN hc0 hm hlt
        generalize str (txB (0 + 5) l) = t at *
        generalize str (B 0) = u at *
        go_wp2_with fail
        refine (HC.out).mono ?_
        rintro e w1 ⟨rfl, hb1⟩
        go_wp2_with fail
        exact ⟨⟨1, by omega, by rw [HN2.out], by rw [HS.out], below_then hb hb1⟩, HMS.out⟩
      · obtain ⟨q, rfl⟩ : ∃ q, m = q + 1 := ⟨m - 1, by omega⟩
        have HS := Lib.hid (HST.out q)
        have g1 : (N == 5) = false := by rw [beq_eq_false_iff_ne]; omega
        have HLT := Lib.hid hlt
        clear hN hm h0 hlt
        rw [show q + 1 + 5 = q + 6 from rfl] at hc0
        generalize str (txB (q + 6) l) = t at *
        generalize str (B (q + 1)) = u at *
        have HC := Lib.hid hc0
        clear hc0
        by_cases hc : t.size < u.size
        · have g2 : decide (t.size < u.size) = true := decide_eq_true hc
          rw [if_pos hc] at HS
          clear hc
          go_wp2_with fail
          refine (HC.out).mono ?_
          rintro e w1 ⟨rfl, hb1⟩
          go_wp2_with fail
          exact ⟨⟨q + 2, HLT.out, by rw [HN2.out], by rw [HS.out], below_then hb hb1⟩, HMS.out⟩
        · have g2 : decide (t.size < u.size) = false := decide_eq_false hc
          rw [if_neg hc] at HS
          clear hc
          go_wp2_with fail
          refine (HC.out).mono ?_
          rintro e w1 ⟨rfl, hb1⟩
          go_wp2_with fail
          exact ⟨⟨q + 2, HLT.out, by rw [HN2.out], by rw [HS.out], below_then hb hb1⟩, HMS.out⟩
    · obtain rfl : m = 3 := by omega
      have g0 : decide (((3 + 5 : Nat) : Int) ≤ 7) = false := decide_eq_false (by omega)
      go_wp2_with fail
      go_ret2
      rw [HR.out]; exact ⟨rfl, hb⟩
set_option maxHeartbeats 400000 in
theorem kbestTexts_any (a : Option Addr) (c : Nat) (l : List (List UInt8)) (w : World) (hu : Txts w w.heap.size a l) :
    Calls Tryz.prog 47 #[.slice a l.length c] w (PackPost (bestTR l) w) := by
  have HB := Lib.hid (kbestt_any a c l w hu)
  clear hu
  go_enter Tryz.func47, Tryz.ntmps47
  go_wp2_with fail
  refine (HB.out).mono ?_
  rintro e w1 ⟨rfl, hb1⟩
  go_wp2_with fail
  go_ret2
  exact ⟨rfl, hb1⟩
end Go.Proofs.YtcachhnhncodoaaGreat
namespace Go.Proofs.YtcachhnhncodoaaGreat
open Go.RowKit
set_option linter.unusedVariables false
def tw (q : List UInt8 → Nat → List Nat × Nat) : List UInt8 → List Nat × Nat
  | [] => ([], 5)
  | d :: u => wchk d.toNat (q u d.toNat)
theorem nl2_tw (n : Nat) (many : Int) (s : List UInt8) : nl2 n many s = tw (fun u d => if n = 2 then hreadR u many d else unpR u many d) s := by cases s <;> rfl
theorem wchk_bad {wd e : Nat} (h : e ≠ 0) (r : List Nat) : wchk wd (r, e) = ([], e) := if_pos h
theorem wchk_off {wd : Nat} {r : List Nat} (h : B.wd r ≠ wd) : wchk wd (r, 0) = ([], 1) := by unfold wchk; rw [if_neg (by simp), if_pos h]
theorem wchk_on {wd : Nat} {r : List Nat} (h : B.wd r = wd) : wchk wd (r, 0) = (r, 0) := by unfold wchk; rw [if_neg (by simp), if_neg (by simpa using h)]
set_option maxHeartbeats 2000000 in
set_option maxRecDepth 100000 in
theorem toldWide_un (s : List UInt8) (m : Nat) (w : World) (hs : s.length ≤ maxLen) (hm : m ≤ 64) (q : List UInt8 → Nat → List Nat × Nat)
    (hq : ∀ u d, ((q u d).2 ≠ 0 → (q u d).1 = []) ∧ ((q u d).2 = 0 → (q u d).1.length = m ∧ ∀ x ∈ (q u d).1, x < 18446744073709551616))
    (HF : ∀ (u : List UInt8) (d : Nat) W, u.length ≤ maxLen → Calls Tryz.prog 118 #[.string (str u), .int .i64 (m : Int), .int .i64 (d : Int)] W (AllPost (q u d) W)) :
    Calls Tryz.prog 147 #[.string (str s), .int .i64 (m : Int), .func (.func 118) #[] #[]] w (AllPost (tw q s) w) := by
  unfold maxLen at hs
  cases s with
  | nil =>
    have g3 : (str []).toList.isEmpty = true := by rw [str_toList]; rfl
    have HR := Lib.hid (show tw q [] = ([], 5) from rfl)
    go_enter Tryz.func147, Tryz.ntmps147
    go_wp2_with fail
    go_ret2
    rw [HR.out]; exact AllPost.none_ 5 (Below.refl _ _)
  | cons d u =>
    have hsz := str_size (d :: u)
    rw [List.length_cons] at hsz hs
    have hz : 0 < (str (d :: u)).size := by omega
    have hz1 : 1 ≤ (str (d :: u)).size := by omega
    have hz1I : (1 : Int) ≤ ((str (d :: u)).size : Int) := by omega
    have hc : (str (d :: u))[0].toNat = d.toNat := rfl
    have g3 : (str (d :: u)).toList.isEmpty = false := by rw [str_toList]; rfl
    have hF := fun W => HF u d.toNat W (by unfold maxLen; omega)
    obtain ⟨f1, f2⟩ := hq u d.toNat
    have hR : tw q (d :: u) = wchk d.toNat (q u d.toNat) := rfl
    obtain ⟨r, e, he⟩ : ∃ r e, q u d.toNat = (r, e) := ⟨_, _, rfl⟩
    rw [he] at hF f1 f2 hR
    rw [← str_tail d u] at hF
    generalize str (d :: u) = S at *
    have hcl : d.toNat < 256 := d.toNat_lt
    generalize d.toNat = n at *
    have hw8 : IntKind.i64.wrap (n : Int) = (n : Int) := by rw [IntKind.wrap_i64]; omega
    unfold AllPost at hF
    simp only at hF f1 f2
    have HFF := Lib.hid hF
    clear hsz HF hq he hF
    by_cases h0 : e = 0
    · subst h0
      obtain ⟨hrl, hrx⟩ := f2 rfl
      have HW := Lib.hid (fun a c W (hn : Nums W W.heap.size a r) => width_any a c r W _ (by rw [hrl]; unfold maxLen; omega) hrx hn)
      clear f1 f2 hrx hrl
      by_cases hwd : B.wd r = n
      · have HR := Lib.hid (show tw q (d :: u) = (r, 0) by rw [hR]; exact wchk_on hwd)
        rw [hwd] at HW
        have g1 : ((n : Int) != (n : Int)) = false := by simp
        clear hwd hR
        go_enter Tryz.func147, Tryz.ntmps147
        go_wp2_with fail
        refine (HFF.out _).mono ?_
        rintro e1 w1 ⟨a, c, rfl, hn, hb1⟩
        go_wp2_with fail
        refine (HW.out _ _ _ hn).mono ?_
        rintro e1 w2 ⟨rfl, rfl⟩
        go_wp2_with fail
        go_ret2
        rw [HR.out]; exact ⟨a, c, rfl, hn, hb1⟩
      · have HR := Lib.hid (show tw q (d :: u) = ([], 1) by rw [hR]; exact wchk_off hwd)
        generalize B.wd r = k at *
        have g1 : ((k : Int) != (n : Int)) = true := by rw [bne_iff_ne]; omega
        clear hwd hR
        go_enter Tryz.func147, Tryz.ntmps147
        go_wp2_with fail
        refine (HFF.out _).mono ?_
        rintro e1 w1 ⟨a, c, rfl, hn, hb1⟩
        go_wp2_with fail
        refine (HW.out _ _ _ hn).mono ?_
        rintro e1 w2 ⟨rfl, rfl⟩
        go_wp2_with fail
        go_ret2
        rw [HR.out]; exact AllPost.none_ 1 hb1
    · have HR := Lib.hid (show tw q (d :: u) = ([], e) by rw [hR]; exact wchk_bad h0 r)
      have g1 : ((e : Int) != 0) = true := by rw [bne_iff_ne]; omega
      clear f1 f2 hR h0
      go_enter Tryz.func147, Tryz.ntmps147
      go_wp2_with fail
      refine (HFF.out _).mono ?_
      rintro e1 w1 ⟨a, c, rfl, hn, hb1⟩
      go_wp2_with fail
      go_ret2
      rw [HR.out]; exact AllPost.none_ e hb1
set_option maxHeartbeats 2000000 in
set_option maxRecDepth 100000 in
theorem toldWide_hy (s : List UInt8) (m : Nat) (w : World) (hs : s.length ≤ maxLen) (hm : m ≤ 64) (q : List UInt8 → Nat → List Nat × Nat)
    (hq : ∀ u d, ((q u d).2 ≠ 0 → (q u d).1 = []) ∧ ((q u d).2 = 0 → (q u d).1.length = m ∧ ∀ x ∈ (q u d).1, x < 18446744073709551616))
    (HF : ∀ (u : List UInt8) (d : Nat) W, u.length ≤ maxLen → Calls Tryz.prog 148 #[.string (str u), .int .i64 (m : Int), .int .i64 (d : Int)] W (AllPost (q u d) W)) :
    Calls Tryz.prog 147 #[.string (str s), .int .i64 (m : Int), .func (.func 148) #[] #[]] w (AllPost (tw q s) w) := by
  unfold maxLen at hs
  cases s with
  | nil =>
    have g3 : (str []).toList.isEmpty = true := by rw [str_toList]; rfl
    have HR := Lib.hid (show tw q [] = ([], 5) from rfl)
    go_enter Tryz.func147, Tryz.ntmps147
    go_wp2_with fail
    go_ret2
    rw [HR.out]; exact AllPost.none_ 5 (Below.refl _ _)
  | cons d u =>
    have hsz := str_size (d :: u)
    rw [List.length_cons] at hsz hs
    have hz : 0 < (str (d :: u)).size := by omega
    have hz1 : 1 ≤ (str (d :: u)).size := by omega
    have hz1I : (1 : Int) ≤ ((str (d :: u)).size : Int) := by omega
    have hc : (str (d :: u))[0].toNat = d.toNat := rfl
    have g3 : (str (d :: u)).toList.isEmpty = false := by rw [str_toList]; rfl
    have hF := fun W => HF u d.toNat W (by unfold maxLen; omega)
    obtain ⟨f1, f2⟩ := hq u d.toNat
    have hR : tw q (d :: u) = wchk d.toNat (q u d.toNat) := rfl
    obtain ⟨r, e, he⟩ : ∃ r e, q u d.toNat = (r, e) := ⟨_, _, rfl⟩
    rw [he] at hF f1 f2 hR
    rw [← str_tail d u] at hF
    generalize str (d :: u) = S at *
    have hcl : d.toNat < 256 := d.toNat_lt
    generalize d.toNat = n at *
    have hw8 : IntKind.i64.wrap (n : Int) = (n : Int) := by rw [IntKind.wrap_i64]; omega
    unfold AllPost at hF
    simp only at hF f1 f2
    have HFF := Lib.hid hF
    clear hsz HF hq he hF
    by_cases h0 : e = 0
    · subst h0
      obtain ⟨hrl, hrx⟩ := f2 rfl
      have HW := Lib.hid (fun a c W (hn : Nums W W.heap.size a r) => width_any a c r W _ (by rw [hrl]; unfold maxLen; omega) hrx hn)
      clear f1 f2 hrx hrl
      by_cases hwd : B.wd r = n
      · have HR := Lib.hid (show tw q (d :: u) = (r, 0) by rw [hR]; exact wchk_on hwd)
        rw [hwd] at HW
        have g1 : ((n : Int) != (n : Int)) = false := by simp
        clear hwd hR
        go_enter Tryz.func147, Tryz.ntmps147
        go_wp2_with fail
        refine (HFF.out _).mono ?_
        rintro e1 w1 ⟨a, c, rfl, hn, hb1⟩
        go_wp2_with fail
        refine (HW.out _ _ _ hn).mono ?_
        rintro e1 w2 ⟨rfl, rfl⟩
        go_wp2_with fail
        go_ret2
        rw [HR.out]; exact ⟨a, c, rfl, hn, hb1⟩
      · have HR := Lib.hid (show tw q (d :: u) = ([], 1) by rw [hR]; exact wchk_off hwd)
        generalize B.wd r = k at *
        have g1 : ((k : Int) != (n : Int)) = true := by rw [bne_iff_ne]; omega
        clear hwd hR
        go_enter Tryz.func147, Tryz.ntmps147
        go_wp2_with fail
        refine (HFF.out _).mono ?_
        rintro e1 w1 ⟨a, c, rfl, hn, hb1⟩
        go_wp2_with fail
        refine (HW.out _ _ _ hn).mono ?_
        rintro e1 w2 ⟨rfl, rfl⟩
        go_wp2_with fail
        go_ret2
        rw [HR.out]; exact AllPost.none_ 1 hb1
    · have HR := Lib.hid (show tw q (d :: u) = ([], e) by rw [hR]; exact wchk_bad h0 r)
      have g1 : ((e : Int) != 0) = true := by rw [bne_iff_ne]; omega
      clear f1 f2 hR h0
      go_enter Tryz.func147, Tryz.ntmps147
      go_wp2_with fail
      refine (HFF.out _).mono ?_
      rintro e1 w1 ⟨a, c, rfl, hn, hb1⟩
      go_wp2_with fail
      go_ret2
      rw [HR.out]; exact AllPost.none_ e hb1
def tnR (way : Nat) (many : Int) (t : List UInt8) : List Nat × Nat := if way < 1 ∨ 4 < way then ([], 7) else if way = 3 then dreadR t many else if way = 4 then P.read t many else nl2 way many t
theorem nlR_open (s : List UInt8) (many : Int) : nlR s many = if (openR s many).2.2 ≠ 0 then ([], (openR s many).2.2) else tnR (openR s many).1 many (openR s many).2.1 := by
  unfold nlR openR
  by_cases h0 : many < 0
  · rw [if_pos h0, if_pos h0]; rfl
  rw [if_neg h0, if_neg h0]
  by_cases h1 : 64 < many
  · rw [if_pos h1, if_pos h1]; rfl
  rw [if_neg h1, if_neg h1]
  cases s <;> rfl
set_option maxHeartbeats 2000000 in
set_option maxRecDepth 100000 in
theorem toldNumbers_any (way : Nat) (t : List UInt8) (m : Nat) (w : World) (hs : t.length ≤ maxLen) (hm : m ≤ 64) :
    Calls Tryz.prog 120 #[.string (str t), .int .i64 (m : Int), .int .i64 (way : Int)] w (AllPost (tnR way m t) w) := by
  have hsb : (str t).size ≤ maxLen := by rw [str_size]; exact hs
  by_cases h1 : way = 1
  · subst h1
    have hF := toldWide_un t m w hs hm (fun u d => unpR u m d) (fun u d => by
      have h := unpR_facts2 (show unpR u m d = ((unpR u m d).1, (unpR u m d).2) from rfl)
      exact ⟨h.1, fun e => ⟨(h.2 e).1, (h.2 e).2.2⟩⟩)
      (fun u d W hu => by have h := unpack_any (str u) m d W (by rw [str_size]; exact hu); rw [str_data] at h; exact h)
    have HR := Lib.hid (show tnR 1 m t = tw (fun u d => unpR u m d) t by unfold tnR; rw [if_neg (by omega), if_neg (by omega), if_neg (by omega), nl2_tw]; rfl)
    unfold AllPost at hF ⊢
    have HF := Lib.hid hF
    generalize str t = S at *
    clear hF hs hsb
    go_enter Tryz.func120, Tryz.ntmps120
    go_wp2_with fail
    refine (HF.out).mono ?_
    rintro e1 w1 ⟨a, c, rfl, hn, hb1⟩
    go_wp2_with fail
    go_ret2
    rw [HR.out]; exact ⟨a, c, rfl, hn, hb1⟩
  by_cases h2 : way = 2
  · subst h2
    have hF := toldWide_hy t m w hs hm (fun u d => hreadR u m d) (fun u d => by
      have h := hreadR_facts (show hreadR u m d = ((hreadR u m d).1, (hreadR u m d).2) from rfl)
      exact ⟨h.1, fun e => ⟨(h.2 e).1, (h.2 e).2.2⟩⟩)
      (fun u d W hu => by
        have h := hread_any (str u) m d W (by rw [str_size]; exact hu); rw [str_data] at h
        exact h.mono fun _ _ ⟨a, c, e, hn, _, _, hb⟩ => ⟨a, c, e, hn, hb⟩)
    have HR := Lib.hid (show tnR 2 m t = tw (fun u d => hreadR u m d) t by unfold tnR; rw [if_neg (by omega), if_neg (by omega), if_neg (by omega), nl2_tw]; rfl)
    unfold AllPost at hF ⊢
    have HF := Lib.hid hF
    generalize str t = S at *
    clear hF hs hsb
    go_enter Tryz.func120, Tryz.ntmps120
    go_wp2_with fail
    refine (HF.out).mono ?_
    rintro e1 w1 ⟨a, c, rfl, hn, hb1⟩
    go_wp2_with fail
    go_ret2
    rw [HR.out]; exact ⟨a, c, rfl, hn, hb1⟩
  by_cases h3 : way = 3
  · subst h3
    have hF := dread_any (str t) m w hsb
    rw [str_data] at hF
    have HR := Lib.hid (show tnR 3 m t = dreadR t m by unfold tnR; rw [if_neg (by omega), if_pos rfl])
    unfold AllPostC at hF
    unfold AllPost
    have HF := Lib.hid hF
    generalize str t = S at *
    clear hF hs hsb
    go_enter Tryz.func120, Tryz.ntmps120
    go_wp2_with fail
    refine (HF.out).mono ?_
    rintro e1 w1 ⟨a, c, rfl, hn, _, _, hb1⟩
    go_wp2_with fail
    go_ret2
    rw [HR.out]; exact ⟨a, c, rfl, hn, hb1⟩
  by_cases h4 : way = 4
  · subst h4
    have hF := pread_any (str t) m w hsb
    rw [str_data] at hF
    have HR := Lib.hid (show tnR 4 m t = P.read t m by unfold tnR; rw [if_neg (by omega), if_neg (by omega), if_pos rfl])
    unfold AllPost at hF ⊢
    have HF := Lib.hid hF
    generalize str t = S at *
    clear hF hs hsb
    go_enter Tryz.func120, Tryz.ntmps120
    go_wp2_with fail
    refine (HF.out).mono ?_
    rintro e1 w1 ⟨a, c, rfl, hn, hb1⟩
    go_wp2_with fail
    go_ret2
    rw [HR.out]; exact ⟨a, c, rfl, hn, hb1⟩
  have HR := Lib.hid (show tnR way m t = ([], 7) from if_pos (by omega))
  have g1 : ((way : Int) == 1) = false := by rw [beq_eq_false_iff_ne]; omega
  have g2 : ((way : Int) == 2) = false := by rw [beq_eq_false_iff_ne]; omega
  have g3 : ((way : Int) == 3) = false := by rw [beq_eq_false_iff_ne]; omega
  have g4 : ((way : Int) == 4) = false := by rw [beq_eq_false_iff_ne]; omega
  generalize str t = S at *
  generalize (way : Int) = W at *
  clear h1 h2 h3 h4 hs hsb
  go_enter Tryz.func120, Tryz.ntmps120
  go_wp2_with fail
  go_ret2
  rw [HR.out]; exact AllPost.none_ 7 (Below.refl _ _)
set_option maxHeartbeats 2000000 in
set_option maxRecDepth 100000 in
theorem readNumbers_any (s : List UInt8) (many : Int) (w : World) (hs : s.length ≤ maxLen) :
    Calls Tryz.prog 84 #[.string (str s), .int .i64 many] w (AllPost (nlR s many) w) := by
  have hO := opened_any s many w hs
  have hR := nlR_open s many
  have hm : (openR s many).2.2 = 0 → ∃ m : Nat, many = m ∧ m ≤ 64 := fun e => by
    by_cases h0 : many < 0
    · rw [show openR s many = (0, [], 3) from if_pos h0] at e; exact absurd e (by simp)
    by_cases h1 : 64 < many
    · rw [show openR s many = (0, [], 2) by unfold openR; rw [if_neg h0, if_pos h1]] at e; exact absurd e (by simp)
    exact ⟨many.toNat, by omega, by omega⟩
  have hl : (openR s many).2.1.length ≤ maxLen := by
    unfold openR
    split
    · simp [maxLen]
    split
    · simp [maxLen]
    cases s with
    | nil => simp [maxLen]
    | cons c t => rw [List.length_cons] at hs; show t.length ≤ _; omega
  obtain ⟨way, t, e, he⟩ : ∃ way t e, openR s many = (way, t, e) := ⟨_, _, _, rfl⟩
  rw [he] at hO hR hm hl
  simp only at hR hm hl
  unfold OpenPost at hO
  simp only at hO
  have HO := Lib.hid hO
  clear hO he hs
  by_cases h0 : e = 0
  · subst h0
    obtain ⟨m, rfl, hm64⟩ := hm rfl
    rw [if_neg (by simp)] at hR
    have HT := Lib.hid (fun W => toldNumbers_any way t m W hl hm64)
    rw [← hR] at HT
    unfold AllPost at HT
    generalize str t = T at *
    generalize str s = S at *
    clear hR hm hl hm64
    go_enter Tryz.func84, Tryz.ntmps84
    go_wp2_with fail
    refine (HO.out).mono ?_
    rintro e1 w1 ⟨rfl, hb1⟩
    go_wp2_with fail
    refine (HT.out _).mono ?_
    rintro e1 w2 ⟨a, c, rfl, hn, hb2⟩
    go_wp2_with fail
    go_ret2
    exact ⟨a, c, rfl, hn, below_then hb1 hb2⟩
  · rw [if_pos h0] at hR
    have HR := Lib.hid hR
    have g1 : ((e : Int) != 0) = true := by rw [bne_iff_ne]; omega
    generalize str t = T at *
    generalize str s = S at *
    clear hR hm hl h0
    go_enter Tryz.func84, Tryz.ntmps84
    go_wp2_with fail
    refine (HO.out).mono ?_
    rintro e1 w1 ⟨rfl, hb1⟩
    go_wp2_with fail
    go_ret2
    rw [HR.out]; exact AllPost.none_ e hb1
end Go.Proofs.YtcachhnhncodoaaGreat
namespace Go.Proofs.YtcachhnhncodoaaGreat
open Go.RowKit
set_option linter.unusedVariables false
def nxR (s : List UInt8) : List UInt8 × List UInt8 × Nat :=
  if (V.rd s).2.2 ≠ 0 then ([], [], (V.rd s).2.2)
  else if 16 < (V.rd s).1 then ([], [], 2)
  else if s.length < (V.rd s).2.1 + (V.rd s).1 then ([], [], 5)
  else ((s.drop (V.rd s).2.1).take (V.rd s).1, s.drop ((V.rd s).2.1 + (V.rd s).1), 0)
def NxPost (r : List UInt8 × List UInt8 × Nat) (w : World) (e : Ending) (w' : World) : Prop := e = .returned (.tuple #[.string (str r.1), .string (str r.2.1), .int .i64 r.2.2]) ∧ Below w.heap.size w w'
theorem nx_bad (acc : List (List UInt8)) (m : Nat) (s : List UInt8) (h : (nxR s).2.2 ≠ 0) : plG acc (plR (m + 1) s) = ([], (nxR s).2.2) := by
  obtain ⟨x, k, e, he⟩ : ∃ x k e, V.rd s = (x, k, e) := ⟨_, _, _, rfl⟩
  unfold nxR at h ⊢
  rw [he] at h ⊢
  simp only at h ⊢
  by_cases h0 : e ≠ 0
  · rw [if_pos h0]; exact plG_bad he h0
  obtain rfl : e = 0 := Decidable.not_not.1 h0
  rw [if_neg h0] at h ⊢
  by_cases h1 : 16 < x
  · rw [if_pos h1]; exact plG_many he h1
  rw [if_neg h1] at h ⊢
  by_cases h2 : s.length < k + x
  · rw [if_pos h2]; exact plG_short he h1 h2
  rw [if_neg h2] at h
  exact absurd rfl h
theorem nx_ok (acc : List (List UInt8)) (m : Nat) (s : List UInt8) (h : (nxR s).2.2 = 0) : plG acc (plR (m + 1) s) = plG (acc ++ [(nxR s).1]) (plR m (nxR s).2.1) ∧ (nxR s).2.1.length ≤ s.length := by
  obtain ⟨x, k, e, he⟩ : ∃ x k e, V.rd s = (x, k, e) := ⟨_, _, _, rfl⟩
  unfold nxR at h ⊢
  rw [he] at h ⊢
  simp only at h ⊢
  by_cases h0 : e ≠ 0
  · rw [if_pos h0] at h; exact absurd h h0
  obtain rfl : e = 0 := Decidable.not_not.1 h0
  rw [if_neg h0] at h ⊢
  by_cases h1 : 16 < x
  · rw [if_pos h1] at h; exact absurd h (by decide)
  rw [if_neg h1] at h ⊢
  by_cases h2 : s.length < k + x
  · rw [if_pos h2] at h; exact absurd h (by decide)
  rw [if_neg h2]
  exact ⟨plG_next he h1 h2, by rw [List.length_drop]; omega⟩
set_option maxHeartbeats 2000000 in
set_option maxRecDepth 100000 in
theorem knext_any (s : List UInt8) (w : World) (hs : s.length ≤ maxLen) :
    Calls Tryz.prog 181 #[.string (str s)] w (NxPost (nxR s) w) := by
  have hv1 := vread_any (str s) w (by rw [str_size]; exact hs)
  rw [str_data] at hv1
  unfold ReadPost at hv1
  have hsz := str_size s
  unfold maxLen at hs
  obtain ⟨x, k, e, he⟩ : ∃ x k e, V.rd s = (x, k, e) := ⟨_, _, _, rfl⟩
  have hN : nxR s = if e ≠ 0 then ([], [], e) else if 16 < x then ([], [], 2) else if s.length < k + x then ([], [], 5) else ((s.drop k).take x, s.drop (k + x), 0) := by
    unfold nxR; rw [he]
  have hb1 := V.rd_bad s
  rw [he] at hv1 hb1
  simp only at hv1
  have HV1 := Lib.hid hv1
  clear hv1
  by_cases h0 : e ≠ 0
  · have HR := Lib.hid (show nxR s = ([], [], e) by rw [hN, if_pos h0])
    have g1 : ((e : Int) != 0) = true := by rw [bne_iff_ne]; omega
    generalize str s = S at *
    clear hN he h0 hb1 hsz
    go_enter Tryz.func181, Tryz.ntmps181
    go_wp2_with fail
    refine (HV1.out).mono ?_
    rintro e2 w1 ⟨rfl, hbl⟩
    go_wp2_with fail
    go_ret3
    rw [HR.out]; exact ⟨rfl, hbl⟩
  obtain rfl : e = 0 := Decidable.not_not.1 h0
  rw [if_neg h0] at hN
  obtain ⟨hk1, hkl, _, hx, hk9, _⟩ := V.rd_ok _ _ _ he
  by_cases h2 : 16 < x
  · have HR := Lib.hid (show nxR s = ([], [], 2) by rw [hN, if_pos h2])
    have g3 : decide (16 < x) = true := decide_eq_true h2
    have g3' : decide ((16 : Int) < (x : Int)) = true := decide_eq_true (by omega)
    generalize str s = S at *
    clear hN he h0 hb1 hsz h2
    go_enter Tryz.func181, Tryz.ntmps181
    go_wp2_with fail
    refine (HV1.out).mono ?_
    rintro e2 w1 ⟨rfl, hbl⟩
    go_wp2_with fail
    go_ret3
    rw [HR.out]; exact ⟨rfl, hbl⟩
  rw [if_neg h2] at hN
  have g3 : decide (16 < x) = false := decide_eq_false h2
  have g3' : decide ((16 : Int) < (x : Int)) = false := decide_eq_false (by omega)
  have hwx : IntKind.i64.wrap (x : Int) = (x : Int) := by rw [IntKind.wrap_i64]; omega
  have hwk : IntKind.i64.wrap ((k : Int) + (x : Int)) = (k : Int) + (x : Int) := by rw [IntKind.wrap_i64]; omega
  by_cases h5 : s.length < k + x
  · have HR := Lib.hid (show nxR s = ([], [], 5) by rw [hN, if_pos h5])
    have g6 : decide ((str s).size < k + x) = true := decide_eq_true (by omega)
    have g6' : decide (((str s).size : Int) < (k : Int) + (x : Int)) = true := decide_eq_true (by omega)
    generalize str s = S at *
    clear hN he h0 hb1 hsz h2 h5
    go_enter Tryz.func181, Tryz.ntmps181
    go_wp2_with fail
    refine (HV1.out).mono ?_
    rintro e2 w1 ⟨rfl, hbl⟩
    go_wp2_with fail
    go_ret3
    rw [HR.out]; exact ⟨rfl, hbl⟩
  rw [if_neg h5] at hN
  have HR := Lib.hid hN
  have g6 : decide ((str s).size < k + x) = false := decide_eq_false (by omega)
  have g6' : decide (((str s).size : Int) < (k : Int) + (x : Int)) = false := decide_eq_false (by omega)
  have HXT := Lib.hid (show (str s).extract (k + x) (str s).size = str (s.drop (k + x)) from str_drop s _)
  have hXC : (str s).extract k (k + x) = str ((s.drop k).take x) := str_cut s k x
  have htl : ((s.drop k).take x).length ≤ 16 := by rw [List.length_take]; omega
  have hcl := fun W => clone_any ((s.drop k).take x) W (by omega)
  rw [← hXC] at hcl
  unfold TextPost at hcl
  rw [← hXC] at hcl
  have HCL := Lib.hid hcl
  have HXC := Lib.hid hXC
  have hkx : k + x ≤ (str s).size := by omega
  have hkxI : (k : Int) + (x : Int) ≤ ((str s).size : Int) := by omega
  have hkxn : ((k : Int) + (x : Int)).toNat = k + x := by omega
  have hkx0 : (0 : Int) ≤ (k : Int) + (x : Int) := by omega
  have hkx1 : (k : Int) ≤ (k : Int) + (x : Int) := by omega
  generalize (s.drop k).take x = t at *
  generalize s.drop (k + x) = q at *
  generalize str s = S at *
  clear hN he h0 hb1 hsz h2 h5 hcl hXC htl
  go_enter Tryz.func181, Tryz.ntmps181
  go_wp2_with fail
  refine (HV1.out).mono ?_
  rintro e2 w1 ⟨rfl, hbl⟩
  go_wp2_with fail
  refine wp_region_wbh (by kernel_rfl) (by kernel_rfl) ?_
  iterate 11 (refine wq_step (fun K hK => ?_); go_simp; first | (refine hK _ ?_; clear hK K) | (apply Exists.intro; refine ⟨fun _ => ?_, hK _ ?_⟩; (go_at_call 198; exact calls_wb (HCL.out _)); clear hK K))
  refine wq_nil ?_
  rintro _ ⟨p, rfl⟩
  have hp := p.below
  go_wp2_with fail
  go_ret3
  rw [HR.out]
  exact ⟨by rw [← HXC.out, ← HXT.out]; rfl, below_then hbl hp⟩
theorem plG_end (acc : List (List UInt8)) (r : List UInt8) : plG acc (plR 0 r) = if r = [] then (acc, 0) else ([], 1) := by
  by_cases h : r = []
  · rw [if_pos h]; subst h; simp [plR, plG]
  · rw [if_neg h]; simp [plR, plG, h]
def TextsPostR (r : List (List UInt8) × Nat) (w : World) (e : Ending) (w' : World) : Prop :=
  ∃ a c, e = .returned (.tuple #[.slice a r.1.length c, .int .i64 r.2]) ∧ TRow w.heap.size r.1 (.slice a r.1.length c) w' ∧ Below w.heap.size w w'
theorem TextsPostR.none {w w' : World} (er : Nat) (h : Below w.heap.size w w') : TextsPostR ([], er) w (.returned (.tuple #[.slice none 0 0, .int .i64 er])) w' :=
  ⟨Option.none, 0, rfl, tnilRow _ _, h⟩
theorem TextsPostR.weak {r : List (List UInt8) × Nat} {w w' : World} {e : Ending} (h : TextsPostR r w e w') : TextsPost r w e w' := by
  obtain ⟨a, c, he, hr, hb⟩ := h
  exact ⟨a, c, he, hr.txts.1, hb⟩
set_option maxHeartbeats 2000000 in
set_option maxRecDepth 100000 in
theorem toldPlain_any (s : List UInt8) (n : Nat) (w : World) (hs : s.length ≤ maxLen) (hn : n ≤ 64) :
    Calls Tryz.prog 151 #[.string (str s), .int .i64 (n : Int)] w (TextsPostR (plR n s) w) := by
  obtain ⟨i0, hi, hz0, hz1, hz2⟩ := info_parts info_str
  unfold maxLen at hs
  have H0 := Lib.hid (show plR n s = plG [] (plR (n - ([] : List (List UInt8)).length) s) from plR_plG n s)
  obtain ⟨R, hR⟩ : ∃ R, R = plR n s := ⟨_, rfl⟩
  rw [← hR] at H0 ⊢
  clear hR
  go_enter Tryz.func151, Tryz.ntmps151
  go_wp2_with (at_make; refine wpList_make_full _ rfl _ _ 66 rfl w.heap.size 9 i0 (.string ByteArray.empty) 1 Tryz.underlying66 hi hz0 hz1 .i64 .i64 _ _ n rfl rfl rfl rfl (by rw [hz2]; omega) (by unfold maxLen; omega) (Nat.le_refl _) ?_; intro w0 hown0 hgrow0)
  have hb0 : Below w.heap.size w w0 := (Below.refl _ _).grown hgrow0 (Nat.le_refl _) (fun k hk => by cases hk)
  have hrow := made_trow hown0
  obtain ⟨g, hg⟩ : ∃ g, g = w.heap.size := ⟨_, rfl⟩
  have hgl : w.heap.size ≤ g := by omega
  rw [← hg] at hrow ⊢
  have hrow' : TRow w.heap.size (List.replicate n []) (.slice (some ⟨g, 0, none⟩) n n) w0 := by rw [← hg]; exact hrow
  clear hown0 hgrow0 hrow hg
  go_wp2_with fail
  go_loopw [0, 7, 8, 9, 10, 15] (fun t _ _ _ _ i wr => ∃ (acc : List (List UInt8)) (r : List UInt8), acc.length ≤ n ∧ i = .int .i64 (acc.length : Nat) ∧ t = .string (str r) ∧ r.length ≤ 9223372036854775807 ∧ TRow w.heap.size (acc ++ List.replicate (n - acc.length) []) (.slice (some ⟨g, 0, none⟩) n n) wr ∧ Below w.heap.size w wr ∧ Hid (R = plG acc (plR (n - acc.length) r))) (fun _ _ _ _ _ i _ => n - (intOf i).toNat)
  case atStart => exact ⟨[], s, by simp, rfl, rfl, by omega, hrow', hb0, H0⟩
  case round =>
    obtain ⟨acc, r, hj, rfl, rfl, hr, hrw, hbw, HJ⟩ := hrel
    clear hrow' hb0
    obtain ⟨j, hj2⟩ : ∃ j, j = acc.length := ⟨_, rfl⟩
    rw [← hj2] at hj HJ hrw ⊢
    have HJ2 := Lib.hid hj2
    clear hj2
    by_cases hlt : j < n
    · have hnx := knext_any r wr (by unfold maxLen; omega)
      have HGB := Lib.hid (nx_bad acc (n - (j + 1)) r)
      have HGO := Lib.hid (nx_ok acc (n - (j + 1)) r)
      rw [show n - (j + 1) + 1 = n - j by omega] at HGB HGO
      unfold NxPost at hnx
      obtain ⟨t, q, e, he⟩ : ∃ t q e, nxR r = (t, q, e) := ⟨_, _, _, rfl⟩
      rw [he] at hnx HGB HGO
      simp only at hnx HGB HGO
      have HN := Lib.hid hnx
      have HFS := Lib.hid (show (acc ++ List.replicate (n - j) []).set j t = (acc ++ [t]) ++ List.replicate (n - (acc ++ [t]).length) [] by have h2 := HJ2.out; rw [h2]; exact fill_step acc t n (by omega))
      have HL2 := Lib.hid (show (acc ++ [t]).length = j + 1 by have h2 := HJ2.out; rw [h2]; simp)
      have hjI : (j : Int) < (n : Int) := by omega
      clear hnx he
      by_cases h0 : e = 0
      · subst h0
        have HRN := Lib.hid (show R = plG (acc ++ [t]) (plR (n - (j + 1)) q) by rw [HJ.out]; exact (HGO.out rfl).1)
        have hql : q.length ≤ 9223372036854775807 := by have := (HGO.out rfl).2; omega
        clear HGB HGO HJ
        go_wp2_with fail
        refine (HN.out).mono ?_
        rintro e2 w1 ⟨rfl, hb1⟩
        have hrw1 := hrw.below hb1
        have c1 := hrw1.cell j (by rw [List.length_append, List.length_replicate]; have := HJ2.out; omega)
        have f1 := hrw1.free j
        have hrw2 := hrw1.put j t
        rw [HFS.out] at hrw2
        have hbw2 : Below w.heap.size w (w1.setCell ⟨g, j, none⟩ (.string (str t))) := (below_then hbw hb1).setCell (p := ⟨g, j, none⟩) hgl _
        generalize (acc ++ List.replicate (n - j) []).getD j [] = old at *
        have HRW := Lib.hid hrw2
        clear hrw hrw1 hrw2
        go_wp2_with fail
        exact ⟨⟨acc ++ [t], q, by rw [HL2.out]; omega, by rw [HL2.out]; go_num, rfl, hql, HRW.out, hbw2, Lib.hid (by rw [HL2.out]; exact HRN.out)⟩, by simp [intOf]; omega⟩
      · have HRN := Lib.hid (show R = ([], e) by rw [HJ.out]; exact HGB.out h0)
        have g3 : ((e : Int) != 0) = true := by rw [bne_iff_ne]; omega
        clear HGB HGO HJ
        go_wp2_with fail
        refine (HN.out).mono ?_
        rintro e2 w1 ⟨rfl, hb1⟩
        go_wp2_with fail
        go_ret2
        rw [HRN.out]
        exact TextsPostR.none _ (below_then hbw hb1)
    · obtain rfl : j = n := by omega
      rw [Nat.sub_self, plG_end] at HJ
      rw [Nat.sub_self, List.replicate_zero, List.append_nil] at hrw
      have hsr := str_size r
      by_cases hr0 : r = []
      · subst hr0
        have HRN := Lib.hid (show R = (acc, 0) by rw [HJ.out, if_pos rfl])
        have hne : (str []).toList.isEmpty = true := by rw [str_toList]; rfl
        have HRW := Lib.hid hrw
        clear HJ hrw
        go_wp2_with fail
        go_ret2
        rw [HRN.out]
        exact ⟨_, _, by simp only; rw [← HJ2.out]; rfl, by simp only; rw [← HJ2.out]; exact HRW.out, hbw⟩
      · have HRN := Lib.hid (show R = ([], 1) by rw [HJ.out, if_neg hr0])
        have hne : (str r).toList.isEmpty = false := by
          rw [str_toList]
          cases r with
          | nil => exact absurd rfl hr0
          | cons x t => rfl
        generalize str r = S at *
        clear HJ hrw
        go_wp2_with fail
        go_ret2
        rw [HRN.out]
        exact TextsPostR.none 1 hbw
end Go.Proofs.YtcachhnhncodoaaGreat
namespace Go.Proofs.YtcachhnhncodoaaGreat
open Go.RowKit
set_option linter.unusedVariables false
set_option maxHeartbeats 4000000 in
set_option maxRecDepth 100000 in
theorem toldBook_any (s : List UInt8) (m : Nat) (w : World) (hs : s.length ≤ maxLen) (hm : m ≤ 64) :
    Calls Tryz.prog 152 #[.string (str s), .int .i64 (m : Int)] w (TextsPost (btR m s) w) := by
  have hv1 := vread_any (str s) w (by rw [str_size]; exact hs)
  rw [str_data] at hv1
  unfold ReadPost at hv1
  have hb1 := V.rd_bad s
  have hsz := str_size s
  have hmx := hs
  unfold maxLen at hmx
  obtain ⟨x, k, e, he⟩ : ∃ x k e, V.rd s = (x, k, e) := ⟨_, _, _, rfl⟩
  rw [he] at hv1 hb1
  simp only at hv1
  have HV1 := Lib.hid hv1
  clear hv1
  by_cases h0 : e = 0
  · subst h0
    obtain ⟨hk1, hkl, _, hx, hk9, _⟩ := V.rd_ok _ _ _ he
    by_cases h2 : 64 < x
    · have HRE := Lib.hid (bt_e2 (m := m) he h2)
      have g3 : decide (64 < x) = true := decide_eq_true h2
      have g3' : decide ((64 : Int) < (x : Int)) = true := decide_eq_true (by omega)
      generalize str s = S at *
      clear hb1 he h2 hs hsz
      go_enter Tryz.func152, Tryz.ntmps152
      go_wp2_with fail
      refine (HV1.out).mono ?_
      rintro e2 w1 ⟨rfl, hbl⟩
      go_wp2_with fail
      go_ret2
      rw [HRE.out]
      exact TextsPost.none _ hbl
    have g3 : decide (64 < x) = false := decide_eq_false h2
    have g3' : decide ((64 : Int) < (x : Int)) = false := decide_eq_false (by omega)
    have hwx : IntKind.i64.wrap (x : Int) = (x : Int) := by rw [IntKind.wrap_i64]; omega
    have HBW := Lib.hid (fun W => wideOf_any x W (by omega))
    have hwl := bw_le x (by omega)
    obtain ⟨q, hq⟩ : ∃ q, B.sz (m * bw x) = q := ⟨_, rfl⟩
    have HE3 := Lib.hid (bt_e3 (m := m) he h2 hq)
    have HE4 := Lib.hid (fun e u => bt_e4 (m := m) (e := e) (u := u) he h2 hq)
    have HE5 := Lib.hid (fun e u b => bt_e5 (m := m) (e := e) (u := u) (b := b) he h2 hq)
    have HOK := Lib.hid (fun u b => bt_ok (m := m) (u := u) (b := b) he h2 hq)
    obtain ⟨u, eu, hu⟩ : ∃ u eu, unpR ((s.drop k).take q) m (bw x : Nat) = (u, eu) := ⟨_, _, rfl⟩
    obtain ⟨b, eb, hb⟩ : ∃ b eb, freadR (s.drop (k + q)) x = (b, eb) := ⟨_, _, rfl⟩
    have hue := unpR_facts hu hwl
    have hup := fun W => unpack_any (str ((s.drop k).take q)) m (bw x : Nat) W (by rw [str_size, List.length_take, List.length_drop]; unfold maxLen; omega)
    rw [str_data, hu] at hup
    have hfr := fun W => fread_any (s.drop (k + q)) x W (by rw [List.length_drop]; unfold maxLen; omega)
    rw [hb] at hfr
    have hXT : (str s).extract (k + q) (str s).size = str (s.drop (k + q)) := str_drop s _
    have hXC : (str s).extract k (k + q) = str ((s.drop k).take q) := str_cut s k q
    rw [← hXC] at hup
    rw [← hXT] at hfr
    unfold AllPost at hup
    unfold TextsPost at hfr
    simp only at hup hfr
    have HUP := Lib.hid hup
    have HFR := Lib.hid hfr
    have hP : m * bw x ≤ 64 * 64 := Nat.mul_le_mul hm hwl
    have hPI : ((m : Int) * ((bw x : Nat) : Int)) = ((m * bw x : Nat) : Int) := by simp
    unfold B.sz at hq
    rw [hu] at HE4 HE5 HOK
    rw [hb] at HE5 HOK
    clear hu hb hXT hXC hup hfr
    generalize bw x = wd at *
    generalize m * wd = P at *
    have hwP : IntKind.i64.wrap (P : Int) = (P : Int) := by rw [IntKind.wrap_i64]; omega
    have hw7 : IntKind.i64.wrap ((P : Int) + 7) = (P : Int) + 7 := by rw [IntKind.wrap_i64]; omega
    have hq8 : ((P : Int) + 7) / 8 = (q : Int) := by omega
    have hq9 : ((P : Int) + 7).tdiv 8 = (q : Int) := by rw [Int.tdiv_eq_ediv_of_nonneg (by omega)]; exact hq8
    have hwq : IntKind.i64.wrap (q : Int) = (q : Int) := by rw [IntKind.wrap_i64]; omega
    have hwkq : IntKind.i64.wrap ((k : Int) + (q : Int)) = (k : Int) + (q : Int) := by rw [IntKind.wrap_i64]; omega
    have hkqn : ((k : Int) + (q : Int)).toNat = k + q := by omega
    have hkq0 : (0 : Int) ≤ (k : Int) + (q : Int) := by omega
    have hkq1 : (k : Int) ≤ (k : Int) + (q : Int) := by omega
    by_cases h5 : s.length < k + q
    · have HRE := Lib.hid (HE3.out h5)
      have g6 : decide (((str s).size : Int) < (k : Int) + (q : Int)) = true := decide_eq_true (by omega)
      have g6' : decide ((str s).size < k + q) = true := decide_eq_true (by omega)
      generalize str s = S at *
      clear HE3 HE4 HE5 HOK HUP HFR hue hsz hs he hb1 hq
      go_enter Tryz.func152, Tryz.ntmps152
      go_wp2_with fail
      refine (HV1.out).mono ?_
      rintro e2 w1 ⟨rfl, hbl⟩
      go_wp2_with fail
      refine (HBW.out _).mono ?_
      rintro e3 w2 ⟨rfl, hb2⟩
      go_wp2_with fail
      go_ret2
      rw [HRE.out]
      exact TextsPost.none _ (below_then hbl hb2)
    have g6 : decide (((str s).size : Int) < (k : Int) + (q : Int)) = false := decide_eq_false (by omega)
    have g6' : decide ((str s).size < k + q) = false := decide_eq_false (by omega)
    have hkx : k + q ≤ (str s).size := by omega
    have hkxI : (k : Int) + (q : Int) ≤ ((str s).size : Int) := by omega
    by_cases hu0 : eu = 0
    · subst hu0
      have HTX := Lib.hid (fun a c a2 c2 W h1 h2 => dtexts_any a c b a2 c2 u W (hue.2 rfl).2 h1 h2)
      unfold TextsPost at HTX
      by_cases hb0 : eb = 0
      · subst hb0
        have HRE := Lib.hid (HOK.out u b h5 rfl rfl)
        generalize str s = S at *
        clear HE3 HE4 HE5 HOK hue hsz hs he hb1 h5 hq
        go_enter Tryz.func152, Tryz.ntmps152
        go_wp2_with fail
        refine (HV1.out).mono ?_
        rintro e2 w1 ⟨rfl, hbl⟩
        go_wp2_with fail
        refine (HBW.out _).mono ?_
        rintro e3 w2 ⟨rfl, hb2⟩
        go_wp2_with fail
        refine (HUP.out _).mono ?_
        rintro e4 w4 ⟨au, cu, rfl, hnu, hb4⟩
        have r4 := below_then (below_then hbl hb2) hb4
        go_wp2_with fail
        refine (HFR.out _).mono ?_
        rintro e5 w5 ⟨ab, cb, rfl, htx, hb5⟩
        have r5 := below_then r4 hb5
        go_wp2_with fail
        refine (HTX.out _ _ _ _ _ htx (hnu.next hb5)).mono ?_
        rintro e6 w6 ⟨at', ct, rfl, htt, hb6⟩
        go_wp2_with fail
        go_ret2
        rw [HRE.out]
        exact ⟨at', ct, rfl, htt, below_then r5 hb6⟩
      · have HRE := Lib.hid (HE5.out eb u b h5 rfl rfl hb0)
        have gb : ((eb : Int) != 0) = true := by rw [bne_iff_ne]; omega
        generalize str s = S at *
        clear HE3 HE4 HE5 HOK hue hsz hs he hb1 h5 hq
        go_enter Tryz.func152, Tryz.ntmps152
        go_wp2_with fail
        refine (HV1.out).mono ?_
        rintro e2 w1 ⟨rfl, hbl⟩
        go_wp2_with fail
        refine (HBW.out _).mono ?_
        rintro e3 w2 ⟨rfl, hb2⟩
        go_wp2_with fail
        refine (HUP.out _).mono ?_
        rintro e4 w4 ⟨au, cu, rfl, hnu, hb4⟩
        have r4 := below_then (below_then hbl hb2) hb4
        go_wp2_with fail
        refine (HFR.out _).mono ?_
        rintro e5 w5 ⟨ab, cb, rfl, htx, hb5⟩
        go_wp2_with fail
        go_ret2
        rw [HRE.out]
        exact TextsPost.none _ (below_then r4 hb5)
    · have HRE := Lib.hid (HE4.out eu u h5 rfl hu0)
      have gu : ((eu : Int) != 0) = true := by rw [bne_iff_ne]; omega
      generalize str s = S at *
      clear HE3 HE4 HE5 HOK hue hsz hs he hb1 h5 hq
      go_enter Tryz.func152, Tryz.ntmps152
      go_wp2_with fail
      refine (HV1.out).mono ?_
      rintro e2 w1 ⟨rfl, hbl⟩
      go_wp2_with fail
      refine (HBW.out _).mono ?_
      rintro e3 w2 ⟨rfl, hb2⟩
      go_wp2_with fail
      refine (HUP.out _).mono ?_
      rintro e4 w4 ⟨au, cu, rfl, hnu, hb4⟩
      go_wp2_with fail
      go_ret2
      rw [HRE.out]
      exact TextsPost.none _ (below_then (below_then hbl hb2) hb4)
  · have HRE := Lib.hid (bt_e1 (m := m) he h0)
    have g1 : ((e : Int) != 0) = true := by rw [bne_iff_ne]; omega
    generalize str s = S at *
    clear hb1 he h0 hs hsz
    go_enter Tryz.func152, Tryz.ntmps152
    go_wp2_with fail
    refine (HV1.out).mono ?_
    rintro e2 w1 ⟨rfl, hbl⟩
    go_wp2_with fail
    go_ret2
    rw [HRE.out]
    exact TextsPost.none _ hbl
def ttR (way : Nat) (many : Nat) (t : List UInt8) : List (List UInt8) × Nat := if way = 5 then plR many t else if way = 6 then btR many t else if way = 7 then freadR t many else ([], 7)
theorem tlR_open (s : List UInt8) (many : Int) : tlR s many = if (openR s many).2.2 ≠ 0 then ([], (openR s many).2.2) else ttR (openR s many).1 many.toNat (openR s many).2.1 := by
  unfold tlR openR
  by_cases h0 : many < 0
  · rw [if_pos h0, if_pos h0]; rfl
  rw [if_neg h0, if_neg h0]
  by_cases h1 : 64 < many
  · rw [if_pos h1, if_pos h1]; rfl
  rw [if_neg h1, if_neg h1]
  have hm : ((many.toNat : Nat) : Int) = many := by omega
  cases s with
  | nil => rfl
  | cons c t => show _ = ttR c.toNat many.toNat t; unfold ttR; rw [hm]
set_option maxHeartbeats 2000000 in
set_option maxRecDepth 100000 in
theorem toldTexts_any (way : Nat) (t : List UInt8) (m : Nat) (w : World) (hs : t.length ≤ maxLen) (hm : m ≤ 64) :
    Calls Tryz.prog 121 #[.string (str t), .int .i64 (m : Int), .int .i64 (way : Int)] w (TextsPost (ttR way m t) w) := by
  have hP := (toldPlain_any t m w hs hm).mono fun _ _ h => h.weak
  have hB := toldBook_any t m w hs hm
  have hF := fread_any t m w hs
  by_cases h1 : way = 5
  · subst h1
    have HR := Lib.hid (show ttR 5 m t = plR m t from rfl)
    unfold TextsPost at hP ⊢
    have HF := Lib.hid hP
    generalize str t = S at *
    clear hP hB hF hs
    go_enter Tryz.func121, Tryz.ntmps121
    go_wp2_with fail
    refine (HF.out).mono ?_
    rintro e1 w1 ⟨a, c, rfl, hn, hb1⟩
    go_wp2_with fail
    go_ret2
    rw [HR.out]; exact ⟨a, c, rfl, hn, hb1⟩
  by_cases h2 : way = 6
  · subst h2
    have HR := Lib.hid (show ttR 6 m t = btR m t from rfl)
    unfold TextsPost at hB ⊢
    have HF := Lib.hid hB
    generalize str t = S at *
    clear hP hB hF hs
    go_enter Tryz.func121, Tryz.ntmps121
    go_wp2_with fail
    refine (HF.out).mono ?_
    rintro e1 w1 ⟨a, c, rfl, hn, hb1⟩
    go_wp2_with fail
    go_ret2
    rw [HR.out]; exact ⟨a, c, rfl, hn, hb1⟩
  by_cases h3 : way = 7
  · subst h3
    have HR := Lib.hid (show ttR 7 m t = freadR t m from rfl)
    unfold TextsPost at hF ⊢
    have HF := Lib.hid hF
    generalize str t = S at *
    clear hP hB hF hs
    go_enter Tryz.func121, Tryz.ntmps121
    go_wp2_with fail
    refine (HF.out).mono ?_
    rintro e1 w1 ⟨a, c, rfl, hn, hb1⟩
    go_wp2_with fail
    go_ret2
    rw [HR.out]; exact ⟨a, c, rfl, hn, hb1⟩
  have HR := Lib.hid (show ttR way m t = ([], 7) by unfold ttR; rw [if_neg h1, if_neg h2, if_neg h3])
  have g1 : ((way : Int) == 5) = false := by rw [beq_eq_false_iff_ne]; omega
  have g2 : ((way : Int) == 6) = false := by rw [beq_eq_false_iff_ne]; omega
  have g3 : ((way : Int) == 7) = false := by rw [beq_eq_false_iff_ne]; omega
  generalize str t = S at *
  generalize (way : Int) = W at *
  clear h1 h2 h3 hs hP hB hF
  go_enter Tryz.func121, Tryz.ntmps121
  go_wp2_with fail
  go_ret2
  rw [HR.out]; exact TextsPost.none 7 (Below.refl _ _)
set_option maxHeartbeats 2000000 in
set_option maxRecDepth 100000 in
theorem readTexts_any (s : List UInt8) (many : Int) (w : World) (hs : s.length ≤ maxLen) :
    Calls Tryz.prog 87 #[.string (str s), .int .i64 many] w (TextsPost (tlR s many) w) := by
  have hO := opened_any s many w hs
  have hR := tlR_open s many
  have hm : (openR s many).2.2 = 0 → ∃ m : Nat, many = m ∧ m ≤ 64 := fun e => by
    by_cases h0 : many < 0
    · rw [show openR s many = (0, [], 3) from if_pos h0] at e; exact absurd e (by simp)
    by_cases h1 : 64 < many
    · rw [show openR s many = (0, [], 2) by unfold openR; rw [if_neg h0, if_pos h1]] at e; exact absurd e (by simp)
    exact ⟨many.toNat, by omega, by omega⟩
  have hl : (openR s many).2.1.length ≤ maxLen := by
    unfold openR
    split
    · simp [maxLen]
    split
    · simp [maxLen]
    cases s with
    | nil => simp [maxLen]
    | cons c t => rw [List.length_cons] at hs; show t.length ≤ _; omega
  obtain ⟨way, t, e, he⟩ : ∃ way t e, openR s many = (way, t, e) := ⟨_, _, _, rfl⟩
  rw [he] at hO hR hm hl
  simp only at hR hm hl
  unfold OpenPost at hO
  simp only at hO
  have HO := Lib.hid hO
  clear hO he hs
  by_cases h0 : e = 0
  · subst h0
    obtain ⟨m, rfl, hm64⟩ := hm rfl
    rw [if_neg (by simp), Int.toNat_natCast] at hR
    have HT := Lib.hid (fun W => toldTexts_any way t m W hl hm64)
    rw [← hR] at HT
    unfold TextsPost at HT
    generalize str t = T at *
    generalize str s = S at *
    clear hR hm hl hm64
    go_enter Tryz.func87, Tryz.ntmps87
    go_wp2_with fail
    refine (HO.out).mono ?_
    rintro e1 w1 ⟨rfl, hb1⟩
    go_wp2_with fail
    refine (HT.out _).mono ?_
    rintro e1 w2 ⟨a, c, rfl, hn, hb2⟩
    go_wp2_with fail
    go_ret2
    exact ⟨a, c, rfl, hn, below_then hb1 hb2⟩
  · rw [if_pos h0] at hR
    have HR := Lib.hid hR
    have g1 : ((e : Int) != 0) = true := by rw [bne_iff_ne]; omega
    generalize str t = T at *
    generalize str s = S at *
    clear hR hm hl h0
    go_enter Tryz.func87, Tryz.ntmps87
    go_wp2_with fail
    refine (HO.out).mono ?_
    rintro e1 w1 ⟨rfl, hb1⟩
    go_wp2_with fail
    go_ret2
    rw [HR.out]; exact TextsPost.none e hb1
end Go.Proofs.YtcachhnhncodoaaGreat
namespace Go.Proofs.YtcachhnhncodoaaGreat
open Go.RowKit
set_option linter.unusedVariables false
theorem diffs_cons (x : Nat) (t : List Nat) (hx : x < 18446744073709551616) : D.diffs (x :: t) = x :: (D.diffs (x :: t)).drop 1 := by
  have h : (D.fd 0 x).2 = x := by unfold D.fd; simp only; omega
  show D.runF D.fd 0 (x :: t) = _
  unfold D.diffs
  simp only [D.runF, List.drop_succ_cons, List.drop_zero, h]
theorem hread_natd (s : List UInt8) (m n : Nat) (hm : m ≤ 64) (hn : n ≤ 64) : hreadR s m n = H.read s m n := by
  unfold hreadR
  rw [if_neg (by omega), if_neg (by omega), Int.toNat_natCast, Int.toNat_natCast]
theorem dread_back (l : List Nat) (hx : ∀ x ∈ l, x < 18446744073709551616) (hl : l.length ≤ 64) : dreadR (dbytes l) l.length = (l, 0) := by
  cases l with
  | nil => rfl
  | cons x t =>
    have hx0 : x < 18446744073709551616 := hx x (by simp)
    have hlz := dz_length (x :: t)
    have hzx := dz_lt (x :: t) hx
    have hw := B.wd_64 _ hzx
    have hdd := diffs_cons x t hx0
    have hrb := H.read_back (B.wd (dz (x :: t))) (dz (x :: t)) (by rw [hlz]; omega) ((B.wd_le _ _).1 (Nat.le_refl _))
    have hzd : x :: D.zags (dz (x :: t)) = D.diffs (x :: t) := by
      unfold dz
      rw [D.zags_zigs _ (fun y h => D.diffs_lt (x :: t) hx y (List.mem_of_mem_drop h))]
      exact hdd.symm
    have hsd := D.sums_diffs (x :: t) hx
    unfold dreadR dbytes
    rw [if_neg (by omega), if_neg (by omega), if_neg (by simp; omega), if_neg (by simp), Int.toNat_natCast]
    have hm1 : (x :: t).length - 1 = (dz (x :: t)).length := hlz.symm
    unfold parseR
    rw [hm1]
    generalize dz (x :: t) = z at *
    generalize hwd : B.wd z = wd at *
    have hrd := V.rd_enc x hx0 (UInt8.ofNat wd :: H.bytes wd z)
    have e : (V.enc ((x :: t).headD 0) ++ [UInt8.ofNat wd]) ++ H.bytes wd z = V.enc x ++ (UInt8.ofNat wd :: H.bytes wd z) := by simp
    rw [e, hrd]
    have hel := V.enc_length x
    rw [if_neg (by simp), if_neg (by simp only [List.length_append, List.length_cons]; omega)]
    have hg : (V.enc x ++ (UInt8.ofNat wd :: H.bytes wd z)).getD (V.sz x) 0 = UInt8.ofNat wd := by
      rw [← hel]; simp [List.getD]
    have hd : (V.enc x ++ (UInt8.ofNat wd :: H.bytes wd z)).drop (V.sz x + 1) = H.bytes wd z := by
      rw [← hel, ← List.drop_drop]; simp
    have hu : (UInt8.ofNat wd).toNat = wd := by simp; omega
    simp only
    rw [hg, hd, hu, hread_natd _ _ _ (by omega) hw, hrb]
    unfold parse2 dread2
    simp only [hwd]
    simp [hzd, hsd]
end Go.Proofs.YtcachhnhncodoaaGreat
namespace Go.Proofs.YtcachhnhncodoaaGreat
open Go.RowKit
set_option linter.unusedVariables false
theorem unp_pk (w : Nat) (l : List Nat) (hl : l.length ≤ 64) (hw : w ≤ 64) (hx : ∀ x ∈ l, x < 2 ^ w) : unpR (B.le (B.sz (l.length * w)) (B.pk w l)) l.length w = (l, 0) := by
  have h1 := H.leN_pkd w l hx
  have h2 := H.pk_top w l hx
  unfold H.pkd at h1
  have hc : chkR (B.le (B.sz (l.length * w)) (B.pk w l)) l.length w = 0 := by
    unfold chkR chkF
    rw [if_neg (by omega), if_neg (by omega), Int.toNat_natCast, Int.toNat_natCast, h1, h2, B.le_length]
    simp
  unfold unpR
  rw [if_pos hc, Int.toNat_natCast, Int.toNat_natCast, h1, B.dg_pk w l hx]
theorem hread_bytes (w : Nat) (l : List Nat) (hl : l.length ≤ 64) (hw : w ≤ 64) (hx : ∀ x ∈ l, x < 2 ^ w) : hreadR (H.bytes w l) l.length w = (l, 0) := by
  rw [hread_natd _ _ _ hl hw, H.read_back w l hl hx]
theorem wchk_ok (l : List Nat) : wchk (B.wd l) (l, 0) = (l, 0) := by unfold wchk; simp
theorem nl_back (way : Nat) (l : List Nat) (hway : 1 ≤ way ∧ way ≤ 4) (hl : l.length ≤ 64) (hx : ∀ x ∈ l, x < 18446744073709551616) : nlR (nbW way l) l.length = (l, 0) := by
  have hw := B.wd_64 l hx
  have hwx := (B.wd_le l (B.wd l)).1 (Nat.le_refl _)
  have hu : (UInt8.ofNat (B.wd l)).toNat = B.wd l := by simp; omega
  unfold nlR
  rw [if_neg (by omega), if_neg (by omega)]
  have h4 : way = 1 ∨ way = 2 ∨ way = 3 ∨ way = 4 := by omega
  rcases h4 with rfl | rfl | rfl | rfl
  · show (if (1 : Nat) < 1 ∨ 4 < (1 : Nat) then ([], 7) else if (1 : Nat) = 3 then _ else if (1 : Nat) = 4 then _ else nl2 1 l.length ([UInt8.ofNat (B.wd l)] ++ B.le (B.sz (l.length * B.wd l)) (B.pk (B.wd l) l))) = _
    rw [if_neg (by decide), if_neg (by decide), if_neg (by decide)]
    show wchk (UInt8.ofNat (B.wd l)).toNat (if (1 : Nat) = 2 then _ else unpR (B.le (B.sz (l.length * B.wd l)) (B.pk (B.wd l) l)) l.length (UInt8.ofNat (B.wd l)).toNat) = _
    rw [if_neg (by decide), hu, unp_pk _ l hl hw hwx, wchk_ok]
  · show (if (2 : Nat) < 1 ∨ 4 < (2 : Nat) then ([], 7) else if (2 : Nat) = 3 then _ else if (2 : Nat) = 4 then _ else nl2 2 l.length ([UInt8.ofNat (B.wd l)] ++ H.bytes (B.wd l) l)) = _
    rw [if_neg (by decide), if_neg (by decide), if_neg (by decide)]
    show wchk (UInt8.ofNat (B.wd l)).toNat (if (2 : Nat) = 2 then hreadR (H.bytes (B.wd l) l) l.length (UInt8.ofNat (B.wd l)).toNat else _) = _
    rw [if_pos rfl, hu, hread_bytes _ l hl hw hwx, wchk_ok]
  · show (if (3 : Nat) < 1 ∨ 4 < (3 : Nat) then ([], 7) else if (3 : Nat) = 3 then dreadR (dbytes l) l.length else _) = _
    rw [if_neg (by decide), if_pos rfl, dread_back l hx hl]
  · show (if (4 : Nat) < 1 ∨ 4 < (4 : Nat) then ([], 7) else if (4 : Nat) = 3 then _ else if (4 : Nat) = 4 then P.read (P.bytes l) l.length else _) = _
    rw [if_neg (by decide), if_neg (by decide), if_pos rfl, P.read_back l hx hl]
theorem bstep_le (t s : List UInt8) : (bstep t s).length ≤ t.length ∧ (bstep t s).length ≤ s.length ∧ (bstep t s = t ∨ bstep t s = s) := by
  unfold bstep
  by_cases h : t.length ≤ s.length
  · rw [if_pos h]; exact ⟨Nat.le_refl _, h, Or.inl rfl⟩
  · rw [if_neg h]; exact ⟨by omega, Nat.le_refl _, Or.inr rfl⟩
theorem bestNW_is (l : List Nat) : ∃ way, 1 ≤ way ∧ way ≤ 4 ∧ bestNW l = nbW way l := by
  unfold bestNW
  rcases (bstep_le (nbW 1 l) (bstep (nbW 2 l) (bstep (nbW 3 l) (nbW 4 l)))).2.2 with h | h
  · exact ⟨1, by omega, by omega, h⟩
  rcases (bstep_le (nbW 2 l) (bstep (nbW 3 l) (nbW 4 l))).2.2 with h2 | h2
  · exact ⟨2, by omega, by omega, h.trans h2⟩
  rcases (bstep_le (nbW 3 l) (nbW 4 l)).2.2 with h3 | h3
  · exact ⟨3, by omega, by omega, (h.trans h2).trans h3⟩
  · exact ⟨4, by omega, by omega, (h.trans h2).trans h3⟩
theorem best_back (l : List Nat) (hl : l.length ≤ 64) (hx : ∀ x ∈ l, x < 18446744073709551616) : nlR (bestNW l) l.length = (l, 0) := by
  obtain ⟨way, h1, h2, e⟩ := bestNW_is l
  rw [e]; exact nl_back way l ⟨h1, h2⟩ hl hx
theorem bestTW_is (l : List (List UInt8)) : ∃ way, 5 ≤ way ∧ way ≤ 7 ∧ bestTW l = txB way l := by
  unfold bestTW
  rcases (bstep_le (txB 5 l) (bstep (txB 6 l) (txB 7 l))).2.2 with h | h
  · exact ⟨5, by omega, by omega, h⟩
  rcases (bstep_le (txB 6 l) (txB 7 l)).2.2 with h2 | h2
  · exact ⟨6, by omega, by omega, h.trans h2⟩
  · exact ⟨7, by omega, by omega, h.trans h2⟩
theorem plain_back : ∀ (l : List (List UInt8)), (∀ x ∈ l, x.length ≤ 16) → plR l.length (plainB l) = (l, 0)
  | [], _ => rfl
  | x :: t, hx => by
    have h1 := hx x (by simp)
    have ih := plain_back t (fun y hy => hx y (by simp [hy]))
    have hr := V.rd_enc x.length (by omega) (x ++ plainB t)
    have he := V.enc_length x.length
    have e : plainB (x :: t) = V.enc x.length ++ (x ++ plainB t) := by unfold plainB; rw [List.flatMap_cons, List.append_assoc]
    have hd : (plainB (x :: t)).drop (V.sz x.length) = x ++ plainB t := by rw [e, ← he]; simp
    rw [List.length_cons]
    have hln : V.sz x.length + x.length ≤ (plainB (x :: t)).length := by rw [e]; simp only [List.length_append]; omega
    rw [← e] at hr
    unfold plR
    rw [hr]
    simp only [ne_eq, not_true_eq_false, if_false]
    rw [if_neg (by omega), if_neg (by omega), ← List.drop_drop, hd]
    have hd2 : (x ++ plainB t).drop x.length = plainB t := by simp
    rw [hd2, ih]
    simp
theorem front_back (l : List (List UInt8)) (hl : l.length ≤ 64) (hx : ∀ x ∈ l, x.length ≤ 16) : freadR (F.fb [] l) l.length = (l, 0) := by
  unfold freadR
  rw [if_neg (by omega), if_neg (by omega), Int.toNat_natCast, F.fr_fb l [] hx]
theorem book_back (l : List (List UInt8)) (hf : fitR l = 0) : btR l.length (V.enc (T.bk l).length ++ B.le (B.sz (l.length * bw (T.bk l).length)) (B.pk (bw (T.bk l).length) (l.map (T.plc (T.bk l)))) ++ F.fb [] (T.bk l)) = (l, 0) := by
  obtain ⟨hl, hx⟩ := fit_zero hf
  have hbl := bk_length l
  have htx := texts_bk hf
  have hcl : ∀ x ∈ l.map (T.plc (T.bk l)), x < 2 ^ bw (T.bk l).length := fun x h => by
    obtain ⟨y, hy, rfl⟩ := List.mem_map.1 h
    exact bw_fit (code_lt hy).1
  have hfb := front_back (T.bk l) (by omega) (fit_zero (bk_fit hf)).2
  have hup := unp_pk (bw (T.bk l).length) (l.map (T.plc (T.bk l))) (by simpa using hl) (bw_le _ (by omega)) hcl
  have hml : (l.map (T.plc (T.bk l))).length = l.length := by simp
  rw [hml] at hup
  clear hcl hml
  generalize l.map (T.plc (T.bk l)) = cs at *
  generalize T.bk l = b at *
  have hlb := B.le_length (B.sz (l.length * bw b.length)) (B.pk (bw b.length) cs)
  generalize hX : B.le (B.sz (l.length * bw b.length)) (B.pk (bw b.length) cs) = X at *
  generalize hY : F.fb [] b = Y at *
  have hr := V.rd_enc b.length (by omega) (X ++ Y)
  have he := V.enc_length b.length
  rw [List.append_assoc]
  have hd1 : (V.enc b.length ++ (X ++ Y)).drop (V.sz b.length) = X ++ Y := by rw [← he]; simp
  have hd2 : (X ++ Y).take (B.sz (l.length * bw b.length)) = X := by rw [← hlb]; simp
  have hd3 : (V.enc b.length ++ (X ++ Y)).drop (V.sz b.length + B.sz (l.length * bw b.length)) = Y := by
    rw [← List.drop_drop, hd1, ← hlb]; simp
  rw [bt_ok (u := cs) (b := b) hr (by omega) rfl (by simp only [List.length_append]; omega) (by rw [hd1, hd2]; exact hup) (by rw [hd3]; exact hfb)]
  exact htx
theorem tl_back (way : Nat) (l : List (List UInt8)) (hway : 5 ≤ way ∧ way ≤ 7) (hf : fitR l = 0) : tlR (txB way l) l.length = (l, 0) := by
  obtain ⟨hl, hx⟩ := fit_zero hf
  unfold tlR
  rw [if_neg (by omega), if_neg (by omega)]
  have h4 : way = 5 ∨ way = 6 ∨ way = 7 := by omega
  rcases h4 with rfl | rfl | rfl
  · show (if (5 : Nat) = 5 then plR (l.length : Int).toNat (plainB l) else _) = _
    rw [if_pos rfl, Int.toNat_natCast, plain_back l hx]
  · show (if (6 : Nat) = 5 then _ else if (6 : Nat) = 6 then btR (l.length : Int).toNat (V.enc (T.bk l).length ++ B.le (B.sz (l.length * bw (T.bk l).length)) (B.pk (bw (T.bk l).length) (l.map (T.plc (T.bk l)))) ++ F.fb [] (T.bk l)) else _) = _
    rw [if_neg (by decide), if_pos rfl, Int.toNat_natCast, book_back l hf]
  · show (if (7 : Nat) = 5 then _ else if (7 : Nat) = 6 then _ else if (7 : Nat) = 7 then freadR (F.fb [] l) l.length else _) = _
    rw [if_neg (by decide), if_neg (by decide), if_pos rfl, front_back l hl hx]
theorem tbest_back (l : List (List UInt8)) (hf : fitR l = 0) : tlR (bestTW l) l.length = (l, 0) := by
  obtain ⟨way, h1, h2, e⟩ := bestTW_is l
  rw [e]; exact tl_back way l ⟨h1, h2⟩ hf
end Go.Proofs.YtcachhnhncodoaaGreat
namespace Go.Proofs.YtcachhnhncodoaaGreat
open Go.RowKit
set_option linter.unusedVariables false
theorem kd_len (s : List UInt8) (many : Int) : (dreadR s many).1.length ≤ 64 := by
  unfold dreadR
  split
  · simp
  · split
    · simp
    · split
      · simp
      · obtain ⟨_, h2, _, _⟩ := parseR_facts s many.toNat
        unfold dread2
        split
        · simp
        · simp only [D.sums_length, List.length_cons, D.zags, List.length_map]; omega
theorem kfin_len (b : Nat) (m : List Nat × Nat) : (P.fin b m).1.length ≤ m.1.length := by
  unfold P.fin
  split
  · simp
  · split
    · simp
    · simp
theorem kp_len (s : List UInt8) (many : Int) : (P.read s many).1.length ≤ 64 := by
  unfold P.read
  split
  · simp
  · split
    · simp
    · rw [pread_eq]
      split
      · simp
      · have h1 := kfin_len (pparseR s many.toNat).1 ((pparseR s many.toNat).2.1, 0)
        have h2 := (pparse_facts s many.toNat).2
        simp only at h1
        omega
theorem nlR_len (s : List UInt8) (many : Int) : (nlR s many).1.length ≤ 64 := by
  unfold nlR
  by_cases h0 : many < 0
  · rw [if_pos h0]; simp
  by_cases h1 : 64 < many
  · rw [if_neg h0, if_pos h1]; simp
  rw [if_neg h0, if_neg h1]
  obtain ⟨m, rfl⟩ : ∃ m : Nat, many = m := ⟨many.toNat, by omega⟩
  cases s with
  | nil => simp
  | cons c t =>
    simp only
    split
    · simp
    · split
      · exact kd_len _ _
      · split
        · exact kp_len _ _
        · unfold nl2
          cases t with
          | nil => simp
          | cons d u =>
            simp only
            have hq : (if c.toNat = 2 then hreadR u m d.toNat else unpR u m d.toNat).1.length ≤ 64 := by
              split
              · obtain ⟨v, hv⟩ : ∃ v, v = hreadR u m d.toNat := ⟨_, rfl⟩
                obtain ⟨v1, v2⟩ := v
                have h := hreadR_facts hv.symm
                rw [← hv]
                by_cases he : v2 = 0
                · have := (h.2 he).1; simp only; omega
                · rw [h.1 he]; simp
              · obtain ⟨v, hv⟩ : ∃ v, v = unpR u m d.toNat := ⟨_, rfl⟩
                obtain ⟨v1, v2⟩ := v
                have h := unpR_facts2 hv.symm
                rw [← hv]
                by_cases he : v2 = 0
                · have := (h.2 he).1; simp only; omega
                · rw [h.1 he]; simp
            generalize (if c.toNat = 2 then hreadR u m d.toNat else unpR u m d.toNat) = q at *
            unfold wchk
            split
            · simp
            · split
              · simp
              · exact hq
theorem kpl_len : ∀ (m : Nat) (s : List UInt8), (plR m s).1.length ≤ m
  | 0, s => by unfold plR; split <;> simp
  | m + 1, s => by
    have ih := kpl_len m (s.drop ((V.rd s).2.1 + (V.rd s).1))
    unfold plR
    split
    · simp
    · split
      · simp
      · split
        · simp
        · split
          · simp
          · simp only [List.length_cons]; omega
theorem kf_len (s : List UInt8) (m : Nat) (hm : m ≤ 64) : (freadR s m).1.length ≤ 64 := by
  obtain ⟨v, hv⟩ : ∃ v, v = freadR s m := ⟨_, rfl⟩
  obtain ⟨v1, v2⟩ := v
  have h := freadR_facts hv.symm hm
  rw [← hv]
  by_cases he : v2 = 0
  · have := (h.2 he).1; simp only; omega
  · rw [h.1 he]; simp
theorem kts_len (b : List (List UInt8)) (cs : List Nat) : (textsR b cs).1.length ≤ 64 := by
  unfold textsR
  split
  · simp
  · split
    · simp
    · split
      · simp
      · simp only [List.length_map]; omega
theorem kbt_len (m : Nat) (s : List UInt8) : (btR m s).1.length ≤ 64 := by
  unfold btR
  split
  · simp
  · split
    · simp
    · split
      · simp
      · split
        · simp
        · split
          · simp
          · exact kts_len _ _
theorem tlR_len (s : List UInt8) (many : Int) : (tlR s many).1.length ≤ 64 := by
  unfold tlR
  by_cases h0 : many < 0
  · rw [if_pos h0]; simp
  by_cases h1 : 64 < many
  · rw [if_neg h0, if_pos h1]; simp
  rw [if_neg h0, if_neg h1]
  obtain ⟨m, rfl⟩ : ∃ m : Nat, many = m := ⟨many.toNat, by omega⟩
  cases s with
  | nil => simp
  | cons c t =>
    simp only [Int.toNat_natCast]
    split
    · exact Nat.le_trans (kpl_len _ _) (by omega)
    · split
      · exact kbt_len _ _
      · split
        · exact kf_len _ _ (by omega)
        · simp
end Go.Proofs.YtcachhnhncodoaaGreat
