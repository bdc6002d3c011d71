/- The walks of codec.toldWide, toldNumbers, ReadNumbers. -/
import Derived.Test.YtmiboibadccceaaGreatKW1
namespace Go.Proofs.YtmiboibadccceaaGreat
open Go.RowKit
set_option linter.unusedVariables false

def tw (q : List UInt8 → Nat → List Nat × Nat) : List UInt8 → List Nat × Nat
  | [] => ([], 5)
  | d :: u => wchk d.toNat (q u d.toNat)
theorem nl2_tw (n : Nat) (many : Int) (s : List UInt8) : nl2 n many s = tw (fun u d => if n = 2 then hreadR u many d else unpR u many d) s := by cases s <;> rfl
theorem wchk_bad {wd e : Nat} (h : e ≠ 0) (r : List Nat) : wchk wd (r, e) = ([], e) := if_pos h
theorem wchk_off {wd : Nat} {r : List Nat} (h : B.wd r ≠ wd) : wchk wd (r, 0) = ([], 1) := by unfold wchk; rw [if_neg (by simp), if_pos h]
theorem wchk_on {wd : Nat} {r : List Nat} (h : B.wd r = wd) : wchk wd (r, 0) = (r, 0) := by unfold wchk; rw [if_neg (by simp), if_neg (by simpa using h)]

set_option maxHeartbeats 2000000 in
set_option maxRecDepth 100000 in
theorem toldWide_un (s : List UInt8) (m : Nat) (w : World) (hs : s.length ≤ maxLen) (hm : m ≤ 64) (q : List UInt8 → Nat → List Nat × Nat)
    (hq : ∀ u d, ((q u d).2 ≠ 0 → (q u d).1 = []) ∧ ((q u d).2 = 0 → (q u d).1.length = m ∧ ∀ x ∈ (q u d).1, x < 18446744073709551616))
    (HF : ∀ (u : List UInt8) (d : Nat) W, u.length ≤ maxLen → Calls Tryz.prog 100 #[.string (str u), .int .i64 (m : Int), .int .i64 (d : Int)] W (AllPost (q u d) W)) :
    Calls Tryz.prog 99 #[.string (str s), .int .i64 (m : Int), .func (.func 100) #[] #[]] w (AllPost (tw q s) w) := by
  unfold maxLen at hs
  cases s with
  | nil =>
    have g3 : (str []).toList.isEmpty = true := by rw [str_toList]; rfl
    have HR := Lib.hid (show tw q [] = ([], 5) from rfl)
    go_enter Tryz.func99, Tryz.ntmps99
    go_wp2_with fail
    go_ret2
    rw [HR.out]; exact AllPost.none_ 5 (Below.refl _ _)
  | cons d u =>
    have hsz := str_size (d :: u)
    rw [List.length_cons] at hsz hs
    have hz : 0 < (str (d :: u)).size := by omega
    have hz1 : 1 ≤ (str (d :: u)).size := by omega
    have hz1I : (1 : Int) ≤ ((str (d :: u)).size : Int) := by omega
    have hc : (str (d :: u))[0].toNat = d.toNat := rfl
    have g3 : (str (d :: u)).toList.isEmpty = false := by rw [str_toList]; rfl
    have hF := fun W => HF u d.toNat W (by unfold maxLen; omega)
    obtain ⟨f1, f2⟩ := hq u d.toNat
    have hR : tw q (d :: u) = wchk d.toNat (q u d.toNat) := rfl
    obtain ⟨r, e, he⟩ : ∃ r e, q u d.toNat = (r, e) := ⟨_, _, rfl⟩
    rw [he] at hF f1 f2 hR
    rw [← str_tail d u] at hF
    generalize str (d :: u) = S at *
    have hcl : d.toNat < 256 := d.toNat_lt
    generalize d.toNat = n at *
    have hw8 : IntKind.i64.wrap (n : Int) = (n : Int) := by rw [IntKind.wrap_i64]; omega
    unfold AllPost at hF
    simp only at hF f1 f2
    have HFF := Lib.hid hF
    clear hsz HF hq he hF
    by_cases h0 : e = 0
    · subst h0
      obtain ⟨hrl, hrx⟩ := f2 rfl
      have HW := Lib.hid (fun a c W (hn : Nums W W.heap.size a r) => width_any a c r W _ (by rw [hrl]; unfold maxLen; omega) hrx hn)
      clear f1 f2 hrx hrl
      by_cases hwd : B.wd r = n
      · have HR := Lib.hid (show tw q (d :: u) = (r, 0) by rw [hR]; exact wchk_on hwd)
        rw [hwd] at HW
        have g1 : ((n : Int) != (n : Int)) = false := by simp
        clear hwd hR
        go_enter Tryz.func99, Tryz.ntmps99
        go_wp2_with fail
        refine (HFF.out _).mono ?_
        rintro e1 w1 ⟨a, c, rfl, hn, hb1⟩
        go_wp2_with fail
        refine (HW.out _ _ _ hn).mono ?_
        rintro e1 w2 ⟨rfl, rfl⟩
        go_wp2_with fail
        go_ret2
        rw [HR.out]; exact ⟨a, c, rfl, hn, hb1⟩
      · have HR := Lib.hid (show tw q (d :: u) = ([], 1) by rw [hR]; exact wchk_off hwd)
        generalize B.wd r = k at *
        have g1 : ((k : Int) != (n : Int)) = true := by rw [bne_iff_ne]; omega
        clear hwd hR
        go_enter Tryz.func99, Tryz.ntmps99
        go_wp2_with fail
        refine (HFF.out _).mono ?_
        rintro e1 w1 ⟨a, c, rfl, hn, hb1⟩
        go_wp2_with fail
        refine (HW.out _ _ _ hn).mono ?_
        rintro e1 w2 ⟨rfl, rfl⟩
        go_wp2_with fail
        go_ret2
        rw [HR.out]; exact AllPost.none_ 1 hb1
    · have HR := Lib.hid (show tw q (d :: u) = ([], e) by rw [hR]; exact wchk_bad h0 r)
      have g1 : ((e : Int) != 0) = true := by rw [bne_iff_ne]; omega
      clear f1 f2 hR h0
      go_enter Tryz.func99, Tryz.ntmps99
      go_wp2_with fail
      refine (HFF.out _).mono ?_
      rintro e1 w1 ⟨a, c, rfl, hn, hb1⟩
      go_wp2_with fail
      go_ret2
      rw [HR.out]; exact AllPost.none_ e hb1

set_option maxHeartbeats 2000000 in
set_option maxRecDepth 100000 in
theorem toldWide_hy (s : List UInt8) (m : Nat) (w : World) (hs : s.length ≤ maxLen) (hm : m ≤ 64) (q : List UInt8 → Nat → List Nat × Nat)
    (hq : ∀ u d, ((q u d).2 ≠ 0 → (q u d).1 = []) ∧ ((q u d).2 = 0 → (q u d).1.length = m ∧ ∀ x ∈ (q u d).1, x < 18446744073709551616))
    (HF : ∀ (u : List UInt8) (d : Nat) W, u.length ≤ maxLen → Calls Tryz.prog 101 #[.string (str u), .int .i64 (m : Int), .int .i64 (d : Int)] W (AllPost (q u d) W)) :
    Calls Tryz.prog 99 #[.string (str s), .int .i64 (m : Int), .func (.func 101) #[] #[]] w (AllPost (tw q s) w) := by
  unfold maxLen at hs
  cases s with
  | nil =>
    have g3 : (str []).toList.isEmpty = true := by rw [str_toList]; rfl
    have HR := Lib.hid (show tw q [] = ([], 5) from rfl)
    go_enter Tryz.func99, Tryz.ntmps99
    go_wp2_with fail
    go_ret2
    rw [HR.out]; exact AllPost.none_ 5 (Below.refl _ _)
  | cons d u =>
    have hsz := str_size (d :: u)
    rw [List.length_cons] at hsz hs
    have hz : 0 < (str (d :: u)).size := by omega
    have hz1 : 1 ≤ (str (d :: u)).size := by omega
    have hz1I : (1 : Int) ≤ ((str (d :: u)).size : Int) := by omega
    have hc : (str (d :: u))[0].toNat = d.toNat := rfl
    have g3 : (str (d :: u)).toList.isEmpty = false := by rw [str_toList]; rfl
    have hF := fun W => HF u d.toNat W (by unfold maxLen; omega)
    obtain ⟨f1, f2⟩ := hq u d.toNat
    have hR : tw q (d :: u) = wchk d.toNat (q u d.toNat) := rfl
    obtain ⟨r, e, he⟩ : ∃ r e, q u d.toNat = (r, e) := ⟨_, _, rfl⟩
    rw [he] at hF f1 f2 hR
    rw [← str_tail d u] at hF
    generalize str (d :: u) = S at *
    have hcl : d.toNat < 256 := d.toNat_lt
    generalize d.toNat = n at *
    have hw8 : IntKind.i64.wrap (n : Int) = (n : Int) := by rw [IntKind.wrap_i64]; omega
    unfold AllPost at hF
    simp only at hF f1 f2
    have HFF := Lib.hid hF
    clear hsz HF hq he hF
    by_cases h0 : e = 0
    · subst h0
      obtain ⟨hrl, hrx⟩ := f2 rfl
      have HW := Lib.hid (fun a c W (hn : Nums W W.heap.size a r) => width_any a c r W _ (by rw [hrl]; unfold maxLen; omega) hrx hn)
      clear f1 f2 hrx hrl
      by_cases hwd : B.wd r = n
      · have HR := Lib.hid (show tw q (d :: u) = (r, 0) by rw [hR]; exact wchk_on hwd)
        rw [hwd] at HW
        have g1 : ((n : Int) != (n : Int)) = false := by simp
        clear hwd hR
        go_enter Tryz.func99, Tryz.ntmps99
        go_wp2_with fail
        refine (HFF.out _).mono ?_
        rintro e1 w1 ⟨a, c, rfl, hn, hb1⟩
        go_wp2_with fail
        refine (HW.out _ _ _ hn).mono ?_
        rintro e1 w2 ⟨rfl, rfl⟩
        go_wp2_with fail
        go_ret2
        rw [HR.out]; exact ⟨a, c, rfl, hn, hb1⟩
      · have HR := Lib.hid (show tw q (d :: u) = ([], 1) by rw [hR]; exact wchk_off hwd)
        generalize B.wd r = k at *
        have g1 : ((k : Int) != (n : Int)) = true := by rw [bne_iff_ne]; omega
        clear hwd hR
        go_enter Tryz.func99, Tryz.ntmps99
        go_wp2_with fail
        refine (HFF.out _).mono ?_
        rintro e1 w1 ⟨a, c, rfl, hn, hb1⟩
        go_wp2_with fail
        refine (HW.out _ _ _ hn).mono ?_
        rintro e1 w2 ⟨rfl, rfl⟩
        go_wp2_with fail
        go_ret2
        rw [HR.out]; exact AllPost.none_ 1 hb1
    · have HR := Lib.hid (show tw q (d :: u) = ([], e) by rw [hR]; exact wchk_bad h0 r)
      have g1 : ((e : Int) != 0) = true := by rw [bne_iff_ne]; omega
      clear f1 f2 hR h0
      go_enter Tryz.func99, Tryz.ntmps99
      go_wp2_with fail
      refine (HFF.out _).mono ?_
      rintro e1 w1 ⟨a, c, rfl, hn, hb1⟩
      go_wp2_with fail
      go_ret2
      rw [HR.out]; exact AllPost.none_ e hb1


/-- so many numbers of what a way says -/
def tnR (way : Nat) (many : Int) (t : List UInt8) : List Nat × Nat := if way < 1 ∨ 4 < way then ([], 7) else if way = 3 then dreadR t many else if way = 4 then P.read t many else nl2 way many t
theorem nlR_open (s : List UInt8) (many : Int) : nlR s many = if (openR s many).2.2 ≠ 0 then ([], (openR s many).2.2) else tnR (openR s many).1 many (openR s many).2.1 := by
  unfold nlR openR
  by_cases h0 : many < 0
  · rw [if_pos h0, if_pos h0]; rfl
  rw [if_neg h0, if_neg h0]
  by_cases h1 : 64 < many
  · rw [if_pos h1, if_pos h1]; rfl
  rw [if_neg h1, if_neg h1]
  cases s <;> rfl

set_option maxHeartbeats 2000000 in
set_option maxRecDepth 100000 in
theorem toldNumbers_any (way : Nat) (t : List UInt8) (m : Nat) (w : World) (hs : t.length ≤ maxLen) (hm : m ≤ 64) :
    Calls Tryz.prog 56 #[.string (str t), .int .i64 (m : Int), .int .i64 (way : Int)] w (AllPost (tnR way m t) w) := by
  have hsb : (str t).size ≤ maxLen := by rw [str_size]; exact hs
  by_cases h1 : way = 1
  · subst h1
    have hF := toldWide_un t m w hs hm (fun u d => unpR u m d) (fun u d => by
      have h := unpR_facts2 (show unpR u m d = ((unpR u m d).1, (unpR u m d).2) from rfl)
      exact ⟨h.1, fun e => ⟨(h.2 e).1, (h.2 e).2.2⟩⟩)
      (fun u d W hu => by have h := unpack_any (str u) m d W (by rw [str_size]; exact hu); rw [str_data] at h; exact h)
    have HR := Lib.hid (show tnR 1 m t = tw (fun u d => unpR u m d) t by unfold tnR; rw [if_neg (by omega), if_neg (by omega), if_neg (by omega), nl2_tw]; rfl)
    unfold AllPost at hF ⊢
    have HF := Lib.hid hF
    generalize str t = S at *
    clear hF hs hsb
    go_enter Tryz.func56, Tryz.ntmps56
    go_wp2_with fail
    refine (HF.out).mono ?_
    rintro e1 w1 ⟨a, c, rfl, hn, hb1⟩
    go_wp2_with fail
    go_ret2
    rw [HR.out]; exact ⟨a, c, rfl, hn, hb1⟩
  by_cases h2 : way = 2
  · subst h2
    have hF := toldWide_hy t m w hs hm (fun u d => hreadR u m d) (fun u d => by
      have h := hreadR_facts (show hreadR u m d = ((hreadR u m d).1, (hreadR u m d).2) from rfl)
      exact ⟨h.1, fun e => ⟨(h.2 e).1, (h.2 e).2.2⟩⟩)
      (fun u d W hu => by
        have h := hread_any (str u) m d W (by rw [str_size]; exact hu); rw [str_data] at h
        exact h.mono fun _ _ ⟨a, c, e, hn, _, _, hb⟩ => ⟨a, c, e, hn, hb⟩)
    have HR := Lib.hid (show tnR 2 m t = tw (fun u d => hreadR u m d) t by unfold tnR; rw [if_neg (by omega), if_neg (by omega), if_neg (by omega), nl2_tw]; rfl)
    unfold AllPost at hF ⊢
    have HF := Lib.hid hF
    generalize str t = S at *
    clear hF hs hsb
    go_enter Tryz.func56, Tryz.ntmps56
    go_wp2_with fail
    refine (HF.out).mono ?_
    rintro e1 w1 ⟨a, c, rfl, hn, hb1⟩
    go_wp2_with fail
    go_ret2
    rw [HR.out]; exact ⟨a, c, rfl, hn, hb1⟩
  by_cases h3 : way = 3
  · subst h3
    have hF := dread_any (str t) m w hsb
    rw [str_data] at hF
    have HR := Lib.hid (show tnR 3 m t = dreadR t m by unfold tnR; rw [if_neg (by omega), if_pos rfl])
    unfold AllPostC at hF
    unfold AllPost
    have HF := Lib.hid hF
    generalize str t = S at *
    clear hF hs hsb
    go_enter Tryz.func56, Tryz.ntmps56
    go_wp2_with fail
    refine (HF.out).mono ?_
    rintro e1 w1 ⟨a, c, rfl, hn, _, _, hb1⟩
    go_wp2_with fail
    go_ret2
    rw [HR.out]; exact ⟨a, c, rfl, hn, hb1⟩
  by_cases h4 : way = 4
  · subst h4
    have hF := pread_any (str t) m w hsb
    rw [str_data] at hF
    have HR := Lib.hid (show tnR 4 m t = P.read t m by unfold tnR; rw [if_neg (by omega), if_neg (by omega), if_pos rfl])
    unfold AllPost at hF ⊢
    have HF := Lib.hid hF
    generalize str t = S at *
    clear hF hs hsb
    go_enter Tryz.func56, Tryz.ntmps56
    go_wp2_with fail
    refine (HF.out).mono ?_
    rintro e1 w1 ⟨a, c, rfl, hn, hb1⟩
    go_wp2_with fail
    go_ret2
    rw [HR.out]; exact ⟨a, c, rfl, hn, hb1⟩
  have HR := Lib.hid (show tnR way m t = ([], 7) from if_pos (by omega))
  have g1 : ((way : Int) == 1) = false := by rw [beq_eq_false_iff_ne]; omega
  have g2 : ((way : Int) == 2) = false := by rw [beq_eq_false_iff_ne]; omega
  have g3 : ((way : Int) == 3) = false := by rw [beq_eq_false_iff_ne]; omega
  have g4 : ((way : Int) == 4) = false := by rw [beq_eq_false_iff_ne]; omega
  generalize str t = S at *
  generalize (way : Int) = W at *
  clear h1 h2 h3 h4 hs hsb
  go_enter Tryz.func56, Tryz.ntmps56
  go_wp2_with fail
  go_ret2
  rw [HR.out]; exact AllPost.none_ 7 (Below.refl _ _)

set_option maxHeartbeats 2000000 in
set_option maxRecDepth 100000 in
theorem readNumbers_any (s : List UInt8) (many : Int) (w : World) (hs : s.length ≤ maxLen) :
    Calls Tryz.prog 22 #[.string (str s), .int .i64 many] w (AllPost (nlR s many) w) := by
  have hO := opened_any s many w hs
  have hR := nlR_open s many
  have hm : (openR s many).2.2 = 0 → ∃ m : Nat, many = m ∧ m ≤ 64 := fun e => by
    by_cases h0 : many < 0
    · rw [show openR s many = (0, [], 3) from if_pos h0] at e; exact absurd e (by simp)
    by_cases h1 : 64 < many
    · rw [show openR s many = (0, [], 2) by unfold openR; rw [if_neg h0, if_pos h1]] at e; exact absurd e (by simp)
    exact ⟨many.toNat, by omega, by omega⟩
  have hl : (openR s many).2.1.length ≤ maxLen := by
    unfold openR
    split
    · simp [maxLen]
    split
    · simp [maxLen]
    cases s with
    | nil => simp [maxLen]
    | cons c t => rw [List.length_cons] at hs; show t.length ≤ _; omega
  obtain ⟨way, t, e, he⟩ : ∃ way t e, openR s many = (way, t, e) := ⟨_, _, _, rfl⟩
  rw [he] at hO hR hm hl
  simp only at hR hm hl
  unfold OpenPost at hO
  simp only at hO
  have HO := Lib.hid hO
  clear hO he hs
  by_cases h0 : e = 0
  · subst h0
    obtain ⟨m, rfl, hm64⟩ := hm rfl
    rw [if_neg (by simp)] at hR
    have HT := Lib.hid (fun W => toldNumbers_any way t m W hl hm64)
    rw [← hR] at HT
    unfold AllPost at HT
    generalize str t = T at *
    generalize str s = S at *
    clear hR hm hl hm64
    go_enter Tryz.func22, Tryz.ntmps22
    go_wp2_with fail
    refine (HO.out).mono ?_
    rintro e1 w1 ⟨rfl, hb1⟩
    go_wp2_with fail
    refine (HT.out _).mono ?_
    rintro e1 w2 ⟨a, c, rfl, hn, hb2⟩
    go_wp2_with fail
    go_ret2
    exact ⟨a, c, rfl, hn, below_then hb1 hb2⟩
  · rw [if_pos h0] at hR
    have HR := Lib.hid hR
    have g1 : ((e : Int) != 0) = true := by rw [bne_iff_ne]; omega
    generalize str t = T at *
    generalize str s = S at *
    clear hR hm hl h0
    go_enter Tryz.func22, Tryz.ntmps22
    go_wp2_with fail
    refine (HO.out).mono ?_
    rintro e1 w1 ⟨rfl, hb1⟩
    go_wp2_with fail
    go_ret2
    rw [HR.out]; exact AllPost.none_ e hb1
end Go.Proofs.YtmiboibadccceaaGreat
