/- The walks of hypostyleref.TextLess, ManyTexts, BookCheck. -/
import Derived.Test.YtdabpnpiojmbbaaTSame
namespace Go.Proofs.Ytdabpnpiojmbbaa
open Go.RowKit
set_option linter.unusedVariables false

theorem str_at (x : List UInt8) (i : Nat) (h : i < (str x).size) (h2 : i < x.length) : (str x)[i] = x[i] := by
  simp [str, ByteArray.getElem_eq_getElem_data]
theorem tcons_ne {x y : UInt8} {s t : List UInt8} (h : x ≠ y) : decide (x :: s < y :: t) = decide (x < y) := by
  rw [decide_eq_decide, List.cons_lt_cons_iff]
  exact ⟨fun hh => hh.resolve_right fun e => h e.1, Or.inl⟩
theorem tcons_eq {x y : UInt8} {s t : List UInt8} (h : x = y) : decide (x :: s < y :: t) = decide (s < t) := by
  subst h
  rw [decide_eq_decide, List.cons_lt_cons_iff]
  exact ⟨fun hh => by
    rcases hh with hh | ⟨_, hh⟩
    · exact absurd hh (UInt8.lt_irrefl x)
    · exact hh, fun hh => Or.inr ⟨rfl, hh⟩⟩
theorem tnil_left (t : List UInt8) : decide ([] < t) = decide (0 < t.length) := by
  rw [decide_eq_decide]
  cases t with
  | nil => simp
  | cons x t => simp
theorem tnil_right (s : List UInt8) : decide (s < []) = false := by
  rw [decide_eq_false_iff_not]; exact List.not_lt_nil s

set_option maxHeartbeats 1000000 in
set_option maxRecDepth 100000 in
theorem tless_core (x y : List UInt8) (X Y : ByteArray) (w : World) (hx : x.length ≤ 9223372036854775807) (hy : y.length ≤ 9223372036854775807) (hsx : X.size = x.length) (hsy : Y.size = y.length)
    (hxa : ∀ i (h : i < X.size) (h2 : i < x.length), X[i] = x[i]) (hya : ∀ i (h : i < Y.size) (h2 : i < y.length), Y[i] = y[i]) :
    Calls Try.prog 26 #[.string X, .string Y] w fun e w' => e = .returned (.bool (decide (x < y))) ∧ ∃ d, w' = w.drewN d := by
  have HXA := Lib.hid hxa
  have HYA := Lib.hid hya
  clear hxa hya
  obtain ⟨R, hR⟩ : ∃ R, R = decide (x < y) := ⟨_, rfl⟩
  have HD0 := Lib.hid (show R = decide (x.drop 0 < y.drop 0) by rw [hR]; rfl)
  rw [← hR]
  have HNE := Lib.hid (fun i (h : R = decide (x.drop i < y.drop i)) (h1 : i < x.length) (h2 : i < y.length) (hn : x[i] ≠ y[i]) => show R = decide (x[i].toNat < y[i].toNat) by
    rw [h, List.drop_eq_getElem_cons h1, List.drop_eq_getElem_cons h2, tcons_ne hn, decide_eq_decide]; exact UInt8.lt_iff_toNat_lt)
  have HEQ := Lib.hid (fun i (h : R = decide (x.drop i < y.drop i)) (h1 : i < x.length) (h2 : i < y.length) (hn : x[i] = y[i]) => show R = decide (x.drop (i + 1) < y.drop (i + 1)) by
    rw [h, List.drop_eq_getElem_cons h1, List.drop_eq_getElem_cons h2, tcons_eq hn])
  have HEX := Lib.hid (fun i (h : R = decide (x.drop i < y.drop i)) (h1 : i ≤ x.length) (h2 : i ≤ y.length) (hh : i = x.length ∨ i = y.length) => show R = decide (x.length < y.length) by
    rw [h]
    rcases hh with hh | hh
    · rw [hh, List.drop_length, tnil_left, List.length_drop, decide_eq_decide]; omega
    · rw [hh, List.drop_length, tnil_right]; exact (decide_eq_false (by omega)).symm)
  clear hR
  obtain ⟨n, hn⟩ : ∃ n, n = X.size := ⟨_, rfl⟩
  obtain ⟨m, hm⟩ : ∃ m, m = Y.size := ⟨_, rfl⟩
  have HN := Lib.hid hn
  have HM := Lib.hid hm
  have HSX := Lib.hid hsx
  have HSY := Lib.hid hsy
  have hX : X.size ≤ 9223372036854775807 := by omega
  have hY : Y.size ≤ 9223372036854775807 := by omega
  clear hn hm hsx hsy hx hy
  go_enter Try.func26, Try.ntmps26
  go_wp2_with fail
  go_loopw [5] (fun i wr => ∃ k d : Nat, k ≤ X.size ∧ k ≤ Y.size ∧ i = .int .i64 k ∧ wr = w.drewN d ∧ Hid (R = decide (x.drop k < y.drop k))) (fun i _ => X.size - (intOf i).toNat)
  case atStart => exact ⟨0, 0, by omega, by omega, rfl, rfl, HD0⟩
  case round =>
    obtain ⟨k, d, hk1, hk2, rfl, rfl, HJ⟩ := hrel
    by_cases hlt1 : k < X.size
    · by_cases hlt2 : k < Y.size
      · have h1 : k < x.length := by have := HSX.out; omega
        have h2 : k < y.length := by have := HSY.out; omega
        have ex := HXA.out k hlt1 h1
        have ey := HYA.out k hlt2 h2
        have hne := HNE.out k HJ.out h1 h2
        have heq := HEQ.out k HJ.out h1 h2
        generalize x[k] = p at *
        generalize y[k] = q at *
        have hk1I : (k : Int) < (X.size : Int) := by omega
        have hk2I : (k : Int) < (Y.size : Int) := by omega
        by_cases hpq : p = q
        · have HN1 := Lib.hid (heq hpq)
          have g1 : ((p.toNat : Int) != (q.toNat : Int)) = false := by subst hpq; simp
          have g2 : ((p.toNat) != (q.toNat)) = false := by subst hpq; simp
          clear hne heq hpq
          go_wp2_with fail
          go_quiet (fail)
          go_wp2_with fail
          exact ⟨⟨k + 1, d + nq, by omega, by omega, by go_num, by first | rfl | exact World.drewN_drewN _ _ _, HN1⟩, by simp [intOf]; omega⟩
        · have HN1 := Lib.hid (hne hpq)
          have hne2 : ¬ p.toNat = q.toNat := fun e => hpq (UInt8.toNat_inj.1 e)
          have g1 : ((p.toNat : Int) != (q.toNat : Int)) = true := by rw [bne_iff_ne]; omega
          clear hne heq hpq
          go_wp2_with fail
          go_quiet (fail)
          go_wp2_with fail
          go_quiet (fail)
          go_wp2_with fail
          go_ret
          exact ⟨by rw [HN1.out]; simp, _, by first | rfl | simp only [World.drewN_drewN] ; rfl⟩
      · have HE := Lib.hid (HEX.out k HJ.out (by have := HSX.out; omega) (by have := HSY.out; omega) (Or.inr (by have := HSY.out; omega)))
        have HE2 := Lib.hid (show R = decide (X.size < Y.size) by rw [HE.out, decide_eq_decide]; have := HSX.out; have := HSY.out; omega)
        have g1 : decide ((k : Int) < (X.size : Int)) = true := decide_eq_true (by omega)
        have g2 : decide ((k : Int) < (Y.size : Int)) = false := decide_eq_false (by omega)
        go_wp2_with fail
        go_ret
        exact ⟨by rw [HE2.out]; rfl, d, rfl⟩
    · have HE := Lib.hid (HEX.out k HJ.out (by have := HSX.out; omega) (by have := HSY.out; omega) (Or.inl (by have := HSX.out; omega)))
      have HE2 := Lib.hid (show R = decide (X.size < Y.size) by rw [HE.out, decide_eq_decide]; have := HSX.out; have := HSY.out; omega)
      have g1 : decide ((k : Int) < (X.size : Int)) = false := decide_eq_false (by omega)
      go_wp2_with fail
      go_ret
      exact ⟨by rw [HE2.out]; rfl, d, rfl⟩

theorem tless_any (x y : List UInt8) (w : World) (hx : x.length ≤ maxLen) (hy : y.length ≤ maxLen) :
    Calls Try.prog 26 #[.string (str x), .string (str y)] w fun e w' => e = .returned (.bool (decide (x < y))) ∧ ∃ d, w' = w.drewN d :=
  tless_core x y (str x) (str y) w (by unfold maxLen at hx; omega) (by unfold maxLen at hy; omega) (str_size x) (str_size y) (fun i h h2 => str_at x i h h2) (fun i h h2 => str_at y i h h2)

/-- so far none is too long -/
def Fits (l : List (List UInt8)) (k : Nat) : Prop := ∀ i, i < k → (l.getD i []).length ≤ 16
theorem Fits.succ {l : List (List UInt8)} {k : Nat} (h : Fits l k) (hk : (l.getD k []).length ≤ 16) : Fits l (k + 1) := by
  intro i hi
  by_cases e : i = k
  · rw [e]; exact hk
  · exact h i (by omega)
theorem Fits.all {l : List (List UInt8)} (h : Fits l l.length) : fitR l = if 64 < l.length then 2 else 0 := by
  unfold fitR
  have : ¬ l.findIdx long < l.length := fun hh => by
    have h3 := List.findIdx_getElem (w := hh)
    have h4 := h _ hh
    simp only [List.getD, List.getElem?_eq_getElem hh, Option.getD_some] at h4
    simp [long] at h3
    omega
  simp [this]
theorem fit_long {l : List (List UInt8)} {k : Nat} (hk : k < l.length) (h : 16 < (l.getD k []).length) : fitR l = 2 := by
  unfold fitR
  rw [if_pos]
  refine Or.inr (List.findIdx_lt_length_of_exists ⟨l.getD k [], tgetD_mem l k hk, by simpa [long] using h⟩)

set_option maxHeartbeats 1000000 in
set_option maxRecDepth 100000 in
theorem many_any (a : Option Addr) (c : Nat) (l : List (List UInt8)) (w : World) (hm : l.length ≤ maxLen) (hu : Txts w w.heap.size a l) :
    Calls Try.prog 11 #[.slice a l.length c] w fun e w' => e = .returned (.bool (decide (fitR l ≠ 0))) ∧ w = w' := by
  unfold maxLen at hm
  have HU := Lib.hid hu
  have HFA := Lib.hid (fun (h : Fits l l.length) => h.all)
  have HFL := Lib.hid (fun k hk h => fit_long (l := l) (k := k) hk h)
  generalize fitR l = R at *
  clear hu
  go_enter Try.func11, Try.ntmps11
  go_wp2_with fail
  go_loop [3] (fun i => ∃ k : Nat, k ≤ l.length ∧ i = .int .i64 k ∧ Hid (Fits l k)) (fun i => l.length - (intOf i).toNat)
  case atStart => exact ⟨0, by omega, rfl, Lib.hid (fun i hi => absurd hi (by omega))⟩
  case round =>
    obtain ⟨k, hk, rfl, HF⟩ := hrel
    by_cases hlt : k < l.length
    · obtain ⟨b, off, rfl, hb, hcc⟩ := HU.out (fun e => by rw [e] at hlt; simp at hlt)
      have ck := hcc k hlt
      have HSU := Lib.hid (fun h => HF.out.succ h)
      have HLG := Lib.hid (fun h => HFL.out k hlt h)
      have hs := str_size (l.getD k [])
      generalize l.getD k [] = x at *
      generalize str x = X at *
      have hkI : (k : Int) < (l.length : Int) := by omega
      clear hcc
      by_cases hlo : 16 < X.size
      · have g1 : decide ((16 : Int) < (X.size : Int)) = true := decide_eq_true (by omega)
        have HR := Lib.hid (HLG.out (by omega))
        clear hs hlo
        go_wp2_with fail
        go_ret
        exact ⟨by rw [HR.out]; rfl, rfl⟩
      · have g1 : decide ((16 : Int) < (X.size : Int)) = false := decide_eq_false (by omega)
        have HN := Lib.hid (HSU.out (by omega))
        clear hs hlo
        go_wp2_with fail
        exact ⟨⟨k + 1, by omega, by go_num, HN⟩, by simp [intOf]; omega⟩
    · obtain rfl : k = l.length := by omega
      have HE := Lib.hid (HFA.out HF.out)
      go_wp2_with fail
      go_ret
      refine ⟨?_, rfl⟩
      rw [HE.out]
      by_cases h : 64 < l.length
      · simp [h]; omega
      · simp [h]; omega

set_option maxHeartbeats 1000000 in
set_option maxRecDepth 100000 in
theorem rcheck_any (a : Option Addr) (c : Nat) (l : List (List UInt8)) (w : World) (hm : l.length ≤ maxLen) (hu : Txts w w.heap.size a l) :
    Calls Try.prog 16 #[.slice a l.length c] w fun e w' => e = .returned (.int .i64 (bookR l : Nat)) ∧ ∃ d, w' = w.drewN d := by
  have HF := Lib.hid (many_any a c l w hm hu)
  have HU := Lib.hid hu
  by_cases hf : fitR l ≠ 0
  · have hf2 : fitR l = 2 := by
      unfold fitR at hf ⊢
      split
      · rfl
      · rename_i h; rw [if_neg h] at hf; exact absurd rfl hf
    have HR := Lib.hid (show bookR l = 2 by unfold bookR; rw [if_pos hf, hf2])
    rw [decide_eq_true hf] at HF
    clear hu hf hf2
    go_enter Try.func16, Try.ntmps16
    go_wp2_with fail
    refine (HF.out).mono ?_
    rintro e w1 ⟨rfl, rfl⟩
    go_wp2_with fail
    go_ret
    exact ⟨by rw [HR.out]; rfl, 0, rfl⟩
  have hf0 : fitR l = 0 := by omega
  rw [decide_eq_false hf] at HF
  have hfz : l.length ≤ 64 ∧ ∀ x ∈ l, x.length ≤ 16 := by
    unfold fitR at hf0
    rcases Classical.em (64 < l.length ∨ l.findIdx long < l.length) with hh | hh
    · rw [if_pos hh] at hf0; exact absurd hf0 (by decide)
    · constructor
      · rcases Nat.lt_or_ge 64 l.length with k | k
        · exact absurd (Or.inl k) hh
        · exact k
      · intro x hx
        rcases Nat.lt_or_ge 16 x.length with k | k
        · exact absurd (Or.inr (List.findIdx_lt_length_of_exists ⟨x, hx, by simp [long, k]⟩)) hh
        · exact k
  have hl := hfz.1
  have HLX := Lib.hid (fun j (hj : j < l.length) => hfz.2 _ (tgetD_mem l j hj))
  have HRB := Lib.hid (show bookR l = if rise l then 0 else 4 by unfold bookR; rw [if_neg hf])
  clear hf hf0 hu hfz
  go_enter Try.func16, Try.ntmps16
  go_wp2_with fail
  refine (HF.out).mono ?_
  rintro e w1 ⟨rfl, rfl⟩
  go_wp2_with fail
  go_loopw [3] (fun i wr => ∃ k : Nat, 1 ≤ k ∧ (k ≤ l.length ∨ k = 1) ∧ i = .int .i64 k ∧ Hid (Rise l k) ∧ Hid (∃ d, wr = w.drewN d)) (fun i _ => l.length + 1 - (intOf i).toNat)
  case atStart => exact ⟨1, by omega, Or.inr rfl, rfl, Lib.hid (fun i hi => absurd hi (by omega)), Lib.hid ⟨0, rfl⟩⟩
  case round =>
    obtain ⟨k, hk1, hk, rfl, HRI, HW⟩ := hrel
    by_cases hlt : k < l.length
    · obtain ⟨b, off, rfl, hb, hcc⟩ := HU.out (fun e => by rw [e] at hlt; simp at hlt)
      have ck : wr.cell? ⟨b, off + k, none⟩ = some (.string (str (l.getD k []))) := by
        obtain ⟨d, e⟩ := HW.out; rw [e]; exact hcc k hlt
      have cp : wr.cell? ⟨b, off + (k - 1), none⟩ = some (.string (str (l.getD (k - 1) []))) := by
        obtain ⟨d, e⟩ := HW.out; rw [e]; exact hcc (k - 1) (by omega)
      have HSU := Lib.hid (fun h => HRI.out.succ hk1 h)
      have HBD := Lib.hid (fun h => rise_bad (b := l) (i := k - 1) (by omega) h)
      rw [show k - 1 + 1 = k by omega] at HBD
      have hx1 := HLX.out k hlt
      have hx2 := HLX.out (k - 1) (by omega)
      have HTL := Lib.hid (fun W => tless_any (l.getD (k - 1) []) (l.getD k []) W (by unfold maxLen; omega) (by unfold maxLen; omega))
      generalize l.getD k [] = x at *
      generalize l.getD (k - 1) [] = y at *
      generalize str x = X at *
      generalize str y = Y at *
      have hi1 : IntKind.i64.wrap ((k : Int) - 1) = (k : Int) - 1 := by rw [IntKind.wrap_i64]; omega
      have hi2 : (0 : Int) ≤ (k : Int) - 1 := by omega
      have hi3 : ((k : Int) - 1).toNat = k - 1 := by omega
      have hi4 : (k : Int) - 1 < (l.length : Int) := by omega
      have hi5 : (k : Int) < (l.length : Int) := by omega
      have hi6 : (1 : Int) ≤ (k : Int) := by omega
      clear hcc
      by_cases hxy : y < x
      · rw [decide_eq_true hxy] at HTL
        have HN := Lib.hid (HSU.out hxy)
        clear hxy
        go_wp2_with fail
        go_quiet ((go_at_call 26; exact Calls.quiet_of (HTL.out _)))
        go_wp2_with fail
        exact ⟨⟨k + 1, by omega, Or.inl (by omega), by go_num, HN, by obtain ⟨d, e⟩ := HW.out; exact Lib.hid ⟨_, by rw [e, World.drewN_drewN]⟩⟩, by simp [intOf]; omega⟩
      · rw [decide_eq_false hxy] at HTL
        have HB4 := Lib.hid (show bookR l = 4 by rw [HRB.out, HBD.out hxy, if_neg (by simp)])
        clear hxy
        go_wp2_with fail
        go_quiet ((go_at_call 26; exact Calls.quiet_of (HTL.out _)))
        go_wp2_with fail
        go_ret
        obtain ⟨d, e⟩ := HW.out
        exact ⟨by rw [HB4.out]; rfl, _, by rw [e, World.drewN_drewN]⟩
    · have HB0 := Lib.hid (show bookR l = 0 by
        rw [HRB.out, if_pos]
        refine Rise.all ?_
        rcases hk with h | h
        · have e : k = l.length := by omega
          rw [← e]; exact HRI.out
        · intro i hi; omega)
      have hge : l.length ≤ k := by omega
      clear hk
      go_wp2_with fail
      go_ret
      exact ⟨by rw [HB0.out]; rfl, HW.out⟩
end Go.Proofs.Ytdabpnpiojmbbaa
