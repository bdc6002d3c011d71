/- The walks of hypostyleref.skipField, kidsOf. -/
import Derived.Test.YtjfkoledbegpfaaShR1
namespace Go.Proofs.Ytjfkoledbegpfaa
open Go.RowKit
set_option linter.unusedVariables false

theorem drop_head {l : List Sh.Fd} {p : Nat} {f : Sh.Fd} {t : List Sh.Fd} (h : l.drop p = f :: t) : p < l.length ∧ l.getD p Sh.fd0 = f ∧ l.drop (p + 1) = t := by
  have hp : p < l.length := by
    rcases Nat.lt_or_ge p l.length with h1 | h1
    · exact h1
    · rw [List.drop_eq_nil_of_le h1] at h; cases h
  rw [List.drop_eq_getElem_cons hp] at h
  injection h with h1 h2
  exact ⟨hp, by simp [List.getD, List.getElem?_eq_getElem hp, h1], h2⟩
theorem drop_more {l : List Sh.Fd} {p : Nat} {a b : List Sh.Fd} (h : l.drop p = a ++ b) : l.drop (p + a.length) = b := by
  rw [← List.drop_drop, h, List.drop_left]

set_option maxHeartbeats 2000000 in
set_option maxRecDepth 100000 in
theorem skip_any (a : Option Addr) (cap : Nat) (l : List Sh.Fd) (w : World) (B : Nat) (hl : l.length ≤ 1048576) (hu : Fds w B a l) (n : Nat) :
    ∀ (r : Nat) (k : Sh.F) (p : Nat) (rest : List Sh.Fd), Sh.size k < n → l.drop p = ((r : Int), (Sh.len k : Int)) :: (Sh.flat k ++ rest) →
    Calls Try.prog 47 #[.slice a l.length cap, .int .i64 p] w fun e w' => e = .returned (.int .i64 ((p + 1 + Sh.size k : Nat) : Int)) ∧ w = w' := by
  induction n with
  | zero => intro r k p rest h; omega
  | succ m ih =>
    intro r k p rest hsz hd
    have IH := Lib.hid ih
    obtain ⟨hp, hg, hd2⟩ := drop_head hd
    obtain ⟨b, off, rfl, hb, hcc⟩ := hu (fun e => by rw [e] at hp; simp at hp)
    obtain ⟨c0, c1⟩ := hcc p hp
    rw [hg] at c0 c1
    simp only at c0 c1
    have hlen : p + 1 + (Sh.size k + rest.length) = l.length := by
      have := congrArg List.length hd2
      rw [List.length_drop, List.length_append, Sh.flat_length] at this
      omega
    have HD := Lib.hid hd2
    have hkl := Sh.len_le k
    have hge : ¬ (l.length : Int) ≤ (p : Int) := by omega
    have hpI : (p : Int) < (l.length : Int) := by omega
    have dge : decide ((l.length : Int) ≤ (p : Int)) = false := decide_eq_false hge
    clear hcc ih hd hd2 hg
    go_enter Try.func47, Try.ntmps47
    go_wp2_with fail
    go_loop [5, 6] (fun q i => ∃ (j e : Nat) (s : Sh.F), j + Sh.len s = Sh.len k ∧ i = .int .i64 j ∧ q = .int .i64 e ∧ e + Sh.size s = p + 1 + Sh.size k ∧ Sh.size s ≤ Sh.size k ∧ Hid (l.drop e = Sh.flat s ++ rest)) (fun _ i => Sh.len k - (intOf i).toNat)
    case atStart => exact ⟨0, p + 1, k, by omega, rfl, by go_num, by omega, Nat.le_refl _, HD⟩
    case round =>
      obtain ⟨j, e, s, hjs, rfl, rfl, hes, hss, HS⟩ := hrel
      match s, hjs, hes, hss, HS with
      | .nil, hjs, hes, hss, HS =>
        simp only [Sh.len, Sh.size, Nat.add_zero] at hjs hes
        subst hjs
        subst hes
        go_wp2_with fail
        go_ret
        exact ⟨rfl, rfl⟩
      | .cons r' k' s', hjs, hes, hss, HS =>
        simp only [Sh.len] at hjs
        simp only [Sh.size] at hes hss
        have HC := Lib.hid (IH.out r' k' e (Sh.flat s' ++ rest) (by omega) (by rw [HS.out]; simp [Sh.flat]))
        have HN := Lib.hid (show l.drop (e + 1 + Sh.size k') = Sh.flat s' ++ rest by
          have h1 : l.drop e = (((r' : Int), (Sh.len k' : Int)) :: Sh.flat k') ++ (Sh.flat s' ++ rest) := by rw [HS.out]; simp [Sh.flat]
          have h2 := drop_more h1
          rw [List.length_cons, Sh.flat_length] at h2
          rw [← h2]; congr 1; omega)
        have hjI : (j : Int) < (Sh.len k : Int) := by omega
        go_wp2_with fail
        refine (HC.out).mono ?_
        rintro e' w1 ⟨rfl, rfl⟩
        go_wp2_with fail
        exact ⟨⟨j + 1, e + 1 + Sh.size k', s', by omega, by go_num, rfl, by omega, by omega, HN⟩, by simp [intOf]; omega⟩
end Go.Proofs.Ytjfkoledbegpfaa
