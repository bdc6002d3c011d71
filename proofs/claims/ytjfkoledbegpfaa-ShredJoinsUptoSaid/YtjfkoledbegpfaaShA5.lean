/- The walk of slices.Clone of columns. -/
import Derived.Test.YtjfkoledbegpfaaShA4
import Derived.Test.YtjfkoledbegpfaaShS5
namespace Go.Proofs.Ytjfkoledbegpfaa
open Go.RowKit
open Sh (Lv)
set_option linter.unusedVariables false

def ClonePost (w : World) (N : Nat) (news : List Value) (e : Ending) (w' : World) : Prop :=
  ∃ (g c : Nat) (cur : Array Value), e = .returned (.slice (some ⟨g, 0, none⟩) N c) ∧ w.heap.size ≤ g ∧ Cel w' g cur 40 ∧ N ≤ c ∧ c ≤ maxLen ∧ cur.size = c ∧ cur.toList.take N = news ∧ Below w.heap.size w w'

set_option maxHeartbeats 2000000 in
set_option maxRecDepth 100000 in
theorem clone_any (w : World) (b off cap N : Nat) (news : List Value) (hN : 0 < N) (hN2 : N ≤ 12) (hl : news.length = N) (hc : ∀ i, i < N → w.cell? ⟨b, off + i, none⟩ = news[i]?) (h1 : ∀ u ∈ news, u.oneCell' = true) (hb : b < w.heap.size) :
    Calls Try.prog 33 #[.slice (some ⟨b, off, none⟩) N cap] w (ClonePost w N news) := by
  obtain ⟨i0, hi, hz0, hz1, hz2⟩ := info_parts info_lvs
  have hnl : ∀ w, (binOp .eql 27 (.slice (some ⟨b, off, none⟩) N cap) (.slice none 0 0)).run Try.prog w = .ok (.bool false) w := fun _ => by kernel_rfl
  go_enter Try.func33, Try.ntmps33
  go_wp2_with (at_builtin; refine wpList_append_lies _ rfl (.tmp 5) (.tmp 6) 27 rfl w.heap.size 40 i0 (.slice none 0 0) 1 24 Try.underlying27 hi hz0 hz1 hz2 rfl (by decide) (.slice (some ⟨w.heap.size, 0, none⟩) 0 0) 0 [] rfl ⟨rfl, Or.inr ⟨w.heap.size, 0, #[], rfl, Nat.le_refl _, heap_alloc_new w _, Nat.le_refl _, by decide, rfl, rfl⟩⟩ ⟨b, off, none⟩ N cap news rfl (by rw [hl, Nat.mul_one]) ?_ h1 hN (by unfold maxLen; omega) (by omega) (by simp) _ rfl ?_)
  · intro j u hj
    have hjl : j < N := by
      rw [← hl]
      exact (List.getElem?_eq_some_iff.1 hj).1
    have e1 : (⟨b, off, none⟩ : Addr).add j = ⟨b, off + j, none⟩ := by unfold Addr.add; split <;> simp_all
    rw [e1, World.cell?_of_block (a := ⟨b, off + j, none⟩) (heap_alloc_old w _ hb), hc j hjl, hj]
  · intro g c w' hown hgr hor hlt
    have HO := Lib.hid hown
    have HG := Lib.hid hgr
    clear hown hgr hor hlt
    go_wp2_with fail
    go_ret
    rcases HO.out.2 with ⟨e, -⟩ | ⟨g', c', cur, e1, e2, e3, e4, e5, e6, e7⟩
    · cases e
    · have e8 : g = g' ∧ c = c' := by
        injection e1 with q1 q2 q3
        have := Option.some.inj q1
        exact ⟨congrArg Addr.block this, q3⟩
      obtain ⟨rfl, rfl⟩ := e8
      refine ⟨g, c, cur, rfl, e2, e3, e4, e5, by rw [e6, Nat.mul_one], by rw [← e7, Nat.mul_one], ?_⟩
      have hb1 := (Below.refl w.heap.size w).alloc (Nat.le_refl _) (.cells #[] 40)
      exact hb1.trans ((Below.refl w.heap.size _).grown HG.out hb1.size (fun k hk => by cases hk; exact Nat.le_refl _))
end Go.Proofs.Ytjfkoledbegpfaa
