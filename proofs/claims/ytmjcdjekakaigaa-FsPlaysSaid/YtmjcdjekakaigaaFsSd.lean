/- fs.said. -/
import Derived.Test.YtmjcdjekakaigaaFsTu
namespace Go.Proofs.Ytmjcdjekakaigaa.Fs
open Go.RowKit
set_option linter.unusedVariables false

theorem str_nil (x : S) : (str x).toList.isEmpty = decide (x = []) := by
  rw [str_toList]
  cases x with
  | nil => rfl
  | cons a b => simp
theorem str_nil2 (x : S) : ((str x).toList == []) = decide (x = []) := by
  rw [str_toList]
  cases x with
  | nil => rfl
  | cons a b => simp
set_option maxHeartbeats 4000000 in
set_option maxRecDepth 100000 in
theorem said_any (o : Op) (w : World) (ho : opOk o) : Calls Try.prog 49 #[opV o] w (BoolPost (said o) w) := by
  have hal : Below w.heap.size w (w.alloc (.cells #[.int .i64 o.kind, .string (str o.name), .string (str o.to), .string (str o.text)] 27)) := (Below.refl _ _).alloc (Nat.le_refl _) _
  have hO : Bk (w.alloc (.cells #[.int .i64 o.kind, .string (str o.name), .string (str o.to), .string (str o.text)] 27)) w.heap.size 27 #[.int .i64 o.kind, .string (str o.name), .string (str o.to), .string (str o.text)] := bk_new _ _ _
  unfold opV
  have HN := Lib.hid (fun W => isName_any o.name W ho.2.1)
  have HT := Lib.hid (fun W => isName_any o.to W ho.2.2.1)
  have e1 := str_nil o.name
  have e2 := str_nil o.to
  have e3 := str_nil o.text
  have f1 := str_nil2 o.name
  have f2 := str_nil2 o.to
  have f3 := str_nil2 o.text
  obtain ⟨t0, t1, t2, t3⟩ := hO.four
  generalize hW : w.alloc (.cells #[.int .i64 o.kind, .string (str o.name), .string (str o.to), .string (str o.text)] 27) = W0 at *
  have HW := Lib.hid hW
  have HO := Lib.hid hO
  have hs := hal.size
  unfold said
  generalize isName o.name = n1 at *
  generalize isName o.to = m1 at *
  generalize decide (o.name = []) = n2 at *
  generalize decide (o.to = []) = m2 at *
  generalize decide (o.text = []) = x1 at *
  generalize str o.name = X at *
  generalize str o.to = Y at *
  generalize str o.text = Z at *
  generalize o.kind = k at *
  clear hW hO ho
  by_cases k5 : k = 5
  · subst k5
    rw [if_pos rfl, if_neg (by omega), show decide ((5 : Int) = 1) = false by decide, Bool.or_false]
    go_enter Try.func49, Try.ntmps49
    go_wp2_with fail
    rw [HW.out]
    go_region_with (go_at_call 46; refine (HN.out _).mono ?_; rintro e w1 ⟨rfl, hb1⟩; obtain ⟨s0, s1, s2, s3⟩ := (HO.out.next (below_then (below_drewN (Below.refl _ _) 1) hb1)).four)
    all_goals (have hbb := below_then (below_drewN (Below.refl W0.heap.size W0) 1) hb1; clear HO HW HN HT hb1; go_wp2_with fail)
    all_goals (go_ret; exact ⟨ret_bool (by simp_all), hal.trans (hbb.mono hs)⟩)
  · rw [if_neg k5]
    have q5 : (k == 5) = false := beq_eq_false_iff_ne.2 k5
    by_cases k3 : k = 3
    · subst k3
      rw [if_pos rfl, show decide ((3 : Int) = 1) = false by decide, Bool.or_false]
      go_enter Try.func49, Try.ntmps49
      go_wp2_with fail
      rw [HW.out]
      go_region_with (go_at_call 46; refine (HN.out _).mono ?_; rintro e w1 ⟨rfl, hb1⟩; obtain ⟨s0, s1, s2, s3⟩ := (HO.out.next (below_then (below_drewN (Below.refl _ _) 1) hb1)).four)
      all_goals (
        have hbb := below_then (below_drewN (Below.refl W0.heap.size W0) 1) hb1
        go_wp2_with fail
        refine (HT.out _).mono ?_
        rintro e w2 ⟨rfl, hb2⟩
        have hbc := below_then hbb hb2
        obtain ⟨u0, u1, u2, u3⟩ := (HO.out.next hbc).four
        clear s0 s1 s2 s3 HO HW HN HT hb1 hb2
        go_wp2_with fail)
      all_goals (go_ret; exact ⟨ret_bool (by simp_all), hal.trans (hbc.mono hs)⟩)
    · rw [if_neg k3]
      have q3 : (k == 3) = false := beq_eq_false_iff_ne.2 k3
      have q1 : (k == 1) = decide (k = 1) := by by_cases h : k = 1 <;> simp [h]
      generalize decide (k = 1) = b1 at *
      go_enter Try.func49, Try.ntmps49
      go_wp2_with fail
      rw [HW.out]
      go_region_with (go_at_call 46; refine (HN.out _).mono ?_; rintro e w1 ⟨rfl, hb1⟩; obtain ⟨s0, s1, s2, s3⟩ := (HO.out.next (below_then (below_drewN (Below.refl _ _) 1) hb1)).four)
      all_goals (have hbb := below_then (below_drewN (Below.refl W0.heap.size W0) 1) hb1; clear HO HW HN HT hb1 k5 k3; go_wp2_with fail)
      all_goals (go_ret; exact ⟨ret_bool (by simp_all), hal.trans (hbb.mono hs)⟩)
end Go.Proofs.Ytmjcdjekakaigaa.Fs
