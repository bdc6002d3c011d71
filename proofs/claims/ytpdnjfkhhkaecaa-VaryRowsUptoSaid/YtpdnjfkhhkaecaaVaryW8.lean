/- The walks of ListOf, NumsLess. -/
import Derived.Test.YtpdnjfkhhkaecaaVaryW7
import Derived.Test.YtpdnjfkhhkaecaaVaryL2
namespace Go.Proofs.Ytpdnjfkhhkaecaa
open Go.RowKit
set_option linter.unusedVariables false

/-- a slice of numbers that the call made -/
def NumRow (B : Nat) (xs : List Nat) (v : Value) (wr : World) : Prop := wr.ownsRow B 22 1 v xs.length (nv xs)

theorem numRow_nums {B : Nat} {xs : List Nat} {v : Value} {w : World} (h : NumRow B xs v w) : ∃ a c, v = .slice a xs.length c ∧ Nums w w.heap.size a xs := by
  unfold NumRow at h
  rcases h.2 with ⟨rfl, h0⟩ | ⟨g, cap, cur, rfl, e2, e3, e4⟩
  · refine ⟨none, 0, by rw [h0], ?_⟩
    rw [List.eq_nil_of_length_eq_zero h0]; exact Nums.nil _ _ _
  · refine ⟨some ⟨g, 0, none⟩, cap, rfl, fun _ => ⟨g, 0, rfl, lt_of_block e3, fun i hi => ?_⟩⟩
    rw [Nat.zero_add, h.cellAt i (by omega)]
    simp [nv, List.getElem?_eq_getElem hi]

def OfRel (s : ByteArray) (w : World) (r : ByteArray) (v : Value) (wr : World) : Prop :=
  ∃ xs : List Nat, s.data.toList = V.encs xs ++ r.data.toList ∧ (∀ x ∈ xs, x < 18446744073709551616) ∧ NumRow w.heap.size xs v wr ∧ Below w.heap.size w wr

set_option maxHeartbeats 1000000 in
set_option maxRecDepth 100000 in
theorem listOf_any (s : ByteArray) (w : World) (hs : s.size * 8 ≤ 140737488355328) :
    Calls Try.prog 16 #[.string s] w (AllPost (V.rdl s.data.toList) w) := by
  obtain ⟨i0, hi, hz0, hz1, hz2⟩ := info_parts info_u64
  go_enter Try.func16, Try.ntmps16
  go_wp2_with fail
  go_loopw [0, 2, 3, 4, 5, 6, 7] (fun t _ _ v _ _ _ wr => ∃ r : ByteArray, t = .string r ∧ r.size ≤ s.size ∧ OfRel s w r v wr) (fun t _ _ _ _ _ _ _ => strSize t)
  case atStart => exact ⟨s, rfl, Nat.le_refl _, [], by simp [V.encs], by simp, ⟨by simp [nv], Or.inl ⟨rfl, rfl⟩⟩, Below.refl _ _⟩
  case round =>
    obtain ⟨r, rfl, hr, xs, e1, e2, e3, e4⟩ := hrel
    have E1 := Lib.hid e1
    have E2 := Lib.hid e2
    clear e1 e2
    by_cases h0 : r.size = 0
    · obtain ⟨a, c, rfl, hnum⟩ := numRow_nums e3
      have HD := Lib.hid (show V.rdl s.data.toList = (xs, 0) by rw [E1.out, data_empty r h0, List.append_nil]; exact V.rdl_encs xs E2.out)
      go_wp2_with fail
      go_ret2
      rw [HD.out]
      exact ⟨a, c, rfl, hnum, e4⟩
    · have hpos : 0 < r.size := by omega
      have hvo := fun w => vof_all r w (by unfold maxLen; omega)
      rcases V.rd_bad r.data.toList with hz | hz | hz
      · obtain ⟨n, k, hnk⟩ : ∃ n k, V.rd r.data.toList = (n, k, 0) := ⟨_, _, by rw [← hz]⟩
        obtain ⟨k1, kr, hen, hn, _, _⟩ := V.rd_ok _ _ _ hnk
        rw [len_data] at kr
        rw [hnk] at hvo
        have HVO := Lib.hid hvo
        have HE := Lib.hid hen
        clear hz hen hvo hnk
        have hlx : (xs.length + 1) * 8 ≤ 140737488355328 := by
          have := encs_len xs
          have h1 := congrArg List.length E1.out
          rw [List.length_append, len_data, len_data] at h1
          omega
        go_wp2_with fail
        refine (HVO.out _).mono ?_
        rintro e w1 ⟨rfl, hb1⟩
        have hown1 := row_below e3 hb1
        have hw1 : w.heap.size ≤ w1.heap.size := Nat.le_trans e4.size hb1.size
        have hb01 : Below w.heap.size w w1 := e4.trans (hb1.mono e4.size)
        go_wp2_with (at_builtin; refine wpList_append_own _ rfl (.tmp 20) (.tmp 22) 29 rfl w.heap.size 22 i0 (.int .u64 0) 1 8 Try.underlying29 hi hz0 hz1 hz2 rfl (by decide) _ xs.length _ rfl (hown1.alloc _) ⟨w1.heap.size, 0, none⟩ 1 1 [.int .u64 n] rfl rfl ?c1 ?c2 ?c3 hlx ?c5 ?_)
        case c1 =>
          intro j u hj
          match j, hj with
          | 0, hj => simp at hj; subst hj; simp [Addr.add]
        case c2 => intro u hu; simp at hu; subst hu; rfl
        case c3 => unfold maxLen; omega
        case c5 => simp; omega
        intro v' w2 hown2 hgrow2 hnil
        go_wp2_with fail
        have hsz : (r.extract k r.size).size = r.size - k := by simp
        have hdt : (r.extract k r.size).data.toList = r.data.toList.drop k := cut_data r k
        have hall : s.data.toList = V.encs (xs ++ [n]) ++ (r.extract k r.size).data.toList := by
          rw [V.encs_append, V.encs_one, HE.out, hdt, List.append_assoc, List.take_append_drop, E1.out]
        have hmem : ∀ x ∈ xs ++ [n], x < 18446744073709551616 := by
          intro x hx
          rcases List.mem_append.1 hx with hx | hx
          · exact E2.out x hx
          · rw [List.mem_singleton.1 hx]; exact hn
        have hbw2 : Below w.heap.size w w2 := (hb01.alloc hw1 _).grown hgrow2 (by simp; omega) (fun k hk => (hown1.lt k hk).1)
        refine ⟨⟨_, rfl, by rw [hsz]; omega, xs ++ [n], hall, hmem, ?_, hbw2⟩, ?_⟩
        · unfold NumRow; simpa [nv] using hown2
        · show (r.extract k r.size).size < r.size
          omega
      · have HD := Lib.hid (show V.rdl s.data.toList = ([], 5) by rw [E1.out, V.rdl_bad xs E2.out _ (data_ne r h0) (by rw [hz]; decide), hz])
        rw [hz] at hvo
        have HVO := Lib.hid hvo
        clear hz hvo
        go_wp2_with fail
        refine (HVO.out _).mono ?_
        rintro e w1 ⟨rfl, hb1⟩
        go_wp2_with fail
        go_ret2
        rw [HD.out]
        exact ⟨none, 0, rfl, Nums.nil _ _ _, e4.trans (hb1.mono e4.size)⟩
      · have HD := Lib.hid (show V.rdl s.data.toList = ([], 1) by rw [E1.out, V.rdl_bad xs E2.out _ (data_ne r h0) (by rw [hz]; decide), hz])
        rw [hz] at hvo
        have HVO := Lib.hid hvo
        clear hz hvo
        go_wp2_with fail
        refine (HVO.out _).mono ?_
        rintro e w1 ⟨rfl, hb1⟩
        go_wp2_with fail
        go_ret2
        rw [HD.out]
        exact ⟨none, 0, rfl, Nums.nil _ _ _, e4.trans (hb1.mono e4.size)⟩
end Go.Proofs.Ytpdnjfkhhkaecaa
