/- The walk of hypostyleref.placeOf. -/
import Derived.Test.YtdabpnpiojmbbaaTR3
import Derived.Test.YtdabpnpiojmbbaaTL4
namespace Go.Proofs.Ytdabpnpiojmbbaa
open Go.RowKit
set_option linter.unusedVariables false

theorem seen_iff (l : List (List UInt8)) (x : List UInt8) (k : Nat) : seen l x k = true ↔ x ∈ l.take k := by
  unfold seen
  rw [List.any_eq_true]
  constructor
  · rintro ⟨y, hy, h⟩
    rw [decide_eq_true_iff] at h
    subst h; exact hy
  · exact fun h => ⟨x, h, by simp⟩
/-- the texts that stand for the first time among the first -/
def nb (l : List (List UInt8)) : Nat → List (List UInt8)
  | 0 => []
  | k + 1 => if seen l (l.getD k []) k then nb l k else nb l k ++ [l.getD k []]
theorem nb_mem (l : List (List UInt8)) (x : List UInt8) : ∀ k, k ≤ l.length → (x ∈ nb l k ↔ x ∈ l.take k) := by
  intro k
  induction k with
  | zero => intro _; simp [nb]
  | succ k ih =>
    intro h
    have h1 := ih (by omega)
    rw [ttake_succ l k (by omega), List.mem_append, List.mem_singleton]
    unfold nb
    by_cases hs : seen l (l.getD k []) k = true
    · rw [if_pos hs, h1]
      rw [seen_iff] at hs
      constructor
      · exact Or.inl
      · rintro (h2 | h2)
        · exact h2
        · rw [h2]; exact hs
    · rw [if_neg hs, List.mem_append, List.mem_singleton, h1]
theorem nb_nodup (l : List (List UInt8)) : ∀ k, k ≤ l.length → (nb l k).Nodup := by
  intro k
  induction k with
  | zero => intro _; simp [nb]
  | succ k ih =>
    intro h
    have h1 := ih (by omega)
    unfold nb
    by_cases hs : seen l (l.getD k []) k = true
    · rw [if_pos hs]; exact h1
    · rw [if_neg hs]
      refine List.nodup_append.2 ⟨h1, by simp, fun x hx y hy e => ?_⟩
      rw [List.mem_singleton] at hy
      subst e
      rw [hy, nb_mem l _ k (by omega), ← seen_iff] at hx
      exact hs hx
theorem nb_length (l : List (List UInt8)) : ∀ k, (nb l k).length ≤ k := by
  intro k
  induction k with
  | zero => simp [nb]
  | succ k ih =>
    unfold nb
    split
    · omega
    · simp; omega
def cntO (l : List (List UInt8)) (s : List UInt8) (k : Nat) : Nat := (nb l k).countP (pB s false)
theorem cntO_zero (l : List (List UInt8)) (s : List UInt8) : cntO l s 0 = 0 := by simp [cntO, nb]
theorem cntO_le (l : List (List UInt8)) (s : List UInt8) (k : Nat) : cntO l s k ≤ k := Nat.le_trans List.countP_le_length (nb_length l k)
theorem cntO_succ (l : List (List UInt8)) (s : List UInt8) (k : Nat) : cntO l s (k + 1) = cntO l s k + if (!seen l (l.getD k []) k && decide (l.getD k [] < s)) = true then 1 else 0 := by
  unfold cntO
  rw [nb]
  cases hs : seen l (l.getD k []) k
  · rw [if_neg (by simp), List.countP_append]
    simp [pB]
  · rw [if_pos rfl]; simp
theorem cntO_end (l : List (List UInt8)) (s : List UInt8) : cntO l s l.length = T.plc (T.bk l) s := by
  unfold cntO
  have hp : (nb l l.length).Perm (T.bk l) := (List.perm_ext_iff_of_nodup (nb_nodup l _ (Nat.le_refl _)) (T.up_nodup (T.bk_up l))).2 fun x => by
    rw [nb_mem l x _ (Nat.le_refl _), T.bk_mem, List.take_length]
  rw [hp.countP_eq, count_lt s (T.bk_up l)]

set_option maxHeartbeats 2000000 in
set_option maxRecDepth 100000 in
theorem rplace_any (a : Option Addr) (c : Nat) (l : List (List UInt8)) (s : List UInt8) (w : World) (hm : l.length ≤ 140737488351232) (hs : s.length ≤ maxLen) (hx : ∀ x ∈ l, x.length ≤ maxLen) (hu : Txts w w.heap.size a l) :
    Calls Try.prog 24 #[.slice a l.length c, .string (str s)] w fun e w' => e = .returned (.int .i64 (T.plc (T.bk l) s : Nat)) ∧ Below w.heap.size w w' := by
  have HU := Lib.hid hu
  have HTL := Lib.hid (fun k (hk : k < l.length) W => tless_any (l.getD k []) s W (hx _ (tgetD_mem l k hk)) hs)
  have HCE := Lib.hid (cntO_end l s)
  have HC0 := Lib.hid (cntO_zero l s)
  have HCL := Lib.hid (fun k => cntO_le l s k)
  have HCS := Lib.hid (fun k => cntO_succ l s k)
  have HSS := Lib.hid (fun x k h => show (!seen l x (k + 1)) = (!seen l x k && !decide (l.getD k [] = x)) by rw [seen_succ l x k h, Bool.not_or])
  have HS0 := Lib.hid (fun x => show (!seen l x 0) = true by rw [seen_zero]; rfl)
  generalize T.plc (T.bk l) s = P at *
  generalize str s = S at *
  clear hu hx hs
  go_enter Try.func24, Try.ntmps24
  go_wp2_with fail
  go_loopw [5, 6, 7, 8] (fun n i _ _ wr => ∃ k : Nat, k ≤ l.length ∧ i = .int .i64 k ∧ n = .int .i64 (cntO l s k : Nat) ∧ Below w.heap.size w wr) (fun _ i _ _ _ => l.length - (intOf i).toNat)
  case atStart => exact ⟨0, by omega, rfl, by rw [HC0.out]; rfl, Below.refl _ _⟩
  case round =>
    obtain ⟨k, hk, rfl, rfl, hbw⟩ := hrel
    by_cases hlt : k < l.length
    · obtain ⟨bb, off, rfl, hbb, hcc⟩ := HU.out (fun e => by rw [e] at hlt; simp at hlt)
      have HCC := Lib.hid hcc
      have ck := hcc k hlt
      have hkI : (k : Int) < (l.length : Int) := by omega
      have HT := Lib.hid (HTL.out k hlt)
      have hcs := HCS.out k
      have hcl := HCL.out k
      generalize cntO l s k = n at *
      have HCSK := Lib.hid hcs
      have HTE := Lib.hid (fun y => tl_eq y (l.getD k []))
      generalize l.getD k [] = x at *
      generalize str x = X at *
      clear hcc hcs
      go_wp2_with fail
      go_loopw [7, 8] (fun f i wr2 => ∃ m : Nat, m ≤ k ∧ i = .int .i64 m ∧ f = .bool (!seen l x m) ∧ Below w.heap.size w wr2) (fun _ i _ => k - (intOf i).toNat)
      case atStart => exact ⟨0, by omega, rfl, by rw [HS0.out], hbw⟩
      case round =>
        obtain ⟨m, hmk, rfl, rfl, hbw2⟩ := hrel
        have cx := (hbw2.cell (p := ⟨bb, off + k, none⟩) hbb).trans ck
        by_cases hlt2 : m < k
        · have cm := (hbw2.cell (p := ⟨bb, off + m, none⟩) hbb).trans (HCC.out m (by omega))
          have hss := HSS.out x m (by omega)
          have hte := HTE.out (l.getD m [])
          generalize (!seen l x m) = s0 at *
          generalize decide (l.getD m [] = x) = d at *
          generalize str (l.getD m []) = Y at *
          have HSQ := Lib.hid hss
          have hmI : (m : Int) < (k : Int) := by omega
          have hmI2 : (m : Int) < (l.length : Int) := by omega
          have hte2 : (Y.toList != X.toList) = !d := by unfold bne; rw [hte]
          clear hss
          cases s0
          rotate_left
          · cases d
            all_goals
              go_wp2_with fail
              go_quiet (fail)
              go_wp2_with fail
              exact ⟨⟨m + 1, by omega, by go_num, by rw [HSQ.out]; rfl, below_drewN hbw2 _⟩, by simp [intOf]; omega⟩
          · go_wp2_with fail
            go_quiet (fail)
            go_wp2_with fail
            exact ⟨⟨m + 1, by omega, by go_num, by rw [HSQ.out]; rfl, below_drewN hbw2 _⟩, by simp [intOf]; omega⟩
        · obtain rfl : m = k := by omega
          generalize (!seen l x m) = s0 at *
          generalize decide (x < s) = d at *
          cases s0
          rotate_left
          · cases d
            · go_wp2_with fail
              refine (HT.out _).mono ?_
              rintro e w1 ⟨rfl, d, rfl⟩
              go_wp2_with fail
              exact ⟨⟨m + 1, by omega, by go_num, by rw [HCSK.out]; rfl, below_drewN hbw2 _⟩, by simp [intOf]; omega⟩
            · go_wp2_with fail
              refine (HT.out _).mono ?_
              rintro e w1 ⟨rfl, d, rfl⟩
              go_wp2_with fail
              exact ⟨⟨m + 1, by omega, by go_num, by rw [HCSK.out]; go_num, below_drewN hbw2 _⟩, by simp [intOf]; omega⟩
          · go_wp2_with fail
            exact ⟨⟨m + 1, by omega, by go_num, by rw [HCSK.out]; rfl, hbw2⟩, by simp [intOf]; omega⟩
    · obtain rfl : k = l.length := by omega
      rw [HCE.out]
      go_wp2_with fail
      go_ret
      exact ⟨rfl, hbw⟩
end Go.Proofs.Ytdabpnpiojmbbaa
