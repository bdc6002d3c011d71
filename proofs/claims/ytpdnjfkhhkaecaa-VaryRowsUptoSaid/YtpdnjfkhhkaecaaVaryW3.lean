/- The walks of the lists: ReadAll, All, SameNums. -/
import Derived.Test.YtpdnjfkhhkaecaaVaryW2
import Derived.Test.YtpdnjfkhhkaecaaSame
namespace Go.Proofs.Ytpdnjfkhhkaecaa
open Go.RowKit
set_option linter.unusedVariables false

/-- a captured slice of numbers in block B, its row the call's own -/
def Own (B : Nat) (w : World) (xs : List Nat) : Prop :=
  ∃ v, w.heap[B]? = some (.cells #[v] 29 (0, 0)) ∧ w.ownsRow (B + 1) 22 1 v xs.length (nv xs)

set_option maxHeartbeats 400000 in
set_option maxRecDepth 100000 in
theorem push_any (B x : Nat) (xs : List Nat) (w : World) (h : Own B w xs) (hb : (xs.length + 1) * 8 ≤ 140737488355328) :
    Calls Try.prog 29 #[.int .u64 x, .pointer (some ⟨B, 0, none⟩)] w fun e w' => e = .returned (.tuple #[]) ∧ Own B w' (xs ++ [x]) ∧ Below B w w' := by
  obtain ⟨v, hv, hown⟩ := h
  obtain ⟨i, hi, hz0, hz1, hz2⟩ := info_parts info_u64
  have hc := cell_of_one hv
  have hf := free_of_one hv
  have hB := lt_of_block hv
  go_enter Try.func29, Try.ntmps29
  go_wp2_with (at_builtin; refine wpList_append_own _ rfl (.tmp 3) (.tmp 5) 29 rfl (B + 1) 22 i (.int .u64 0) 1 8 Try.underlying29 hi hz0 hz1 hz2 rfl (by decide) v xs.length _ rfl (hown.alloc _) ⟨w.heap.size, 0, none⟩ 1 1 [.int .u64 x] rfl rfl ?c1 ?c2 (by unfold maxLen; omega) hb (by simp; omega) ?_)
  case c1 =>
    intro j u hj
    match j, hj with
    | 0, hj => simp at hj; subst hj; simp [Addr.add]
  case c2 => intro u hu; simp at hu; subst hu; rfl
  intro v' w1 hown' hgrow _
  have hne : some B ≠ v.ownBlock := fun h => by have := hown.lt B h.symm; omega
  obtain ⟨g', cap', hv', _, hlt⟩ := hown'.form (by omega)
  have hv1 : w1.heap[B]? = some (.cells #[v] 29 (0, 0)) := by
    rw [hgrow.block B (by simp; omega) hne, Below.heap_alloc _ _ _ hB]; exact hv
  have hc1 := cell_of_one hv1
  have hf1 := free_of_one hv1
  rw [hv']
  go_wp2
  go_end0
  refine ⟨rfl, ⟨_, one_setCell hv1, ?_⟩, ?_⟩
  · have := ownsRow_setCell_other hown' (a := ⟨B, 0, none⟩) (by intro h; have := (hown'.lt _ h).1; simp at this; omega) v'
    rw [hv'] at this
    simpa [nv] using this
  · exact ((((Below.refl B w).alloc (by omega) _).grown hgrow (by simp; omega) (fun k hk => by have := (hown.lt k hk).1; omega))).setCell (Nat.le_refl B) _

theorem Own.below {B : Nat} {w w' : World} {xs : List Nat} (h : Own B w xs) (hb : Below w.heap.size w w') : Own B w' xs := by
  obtain ⟨v, hv, hown⟩ := h
  have hB := lt_of_block hv
  refine ⟨v, (hb.block B hB).trans hv, ?_⟩
  refine ⟨hown.1, ?_⟩
  rcases hown.2 with hn | ⟨g, cap, cur, e1, e2, e3, e4⟩
  · exact Or.inl hn
  · exact Or.inr ⟨g, cap, cur, e1, e2, (hb.block g (lt_of_block e3)).trans e3, e4⟩

theorem own_lt {B : Nat} {w : World} {xs : List Nat} (h : Own B w xs) : B < w.heap.size := by
  obtain ⟨v, hv, _⟩ := h
  exact lt_of_block hv

def EachPost (B : Nat) (s : ByteArray) (w : World) (e : Ending) (w' : World) : Prop :=
  ∃ (xs : List Nat) (err : Nat), e = .returned (.int .i64 err) ∧ Own B w' xs ∧ Below B w w' ∧ (∀ x ∈ xs, x < 18446744073709551616) ∧
    (err = 0 ∧ s.data.toList = V.encs xs ∨ err ≠ 0 ∧ ∃ rest, rest ≠ [] ∧ s.data.toList = V.encs xs ++ rest ∧ V.rd rest = (0, 0, err))

def EachRel (B : Nat) (s : ByteArray) (w : World) (r : ByteArray) (wr : World) : Prop :=
  ∃ xs : List Nat, s.data.toList = V.encs xs ++ r.data.toList ∧ (∀ x ∈ xs, x < 18446744073709551616) ∧ Own B wr xs ∧ Below B w wr

theorem encs_len (xs : List Nat) : xs.length ≤ (V.encs xs).length := by
  induction xs with
  | nil => simp [V.encs]
  | cons x xs ih => rw [V.encs_cons, List.length_append, V.enc_length, List.length_cons]; have := V.sz_ge x; omega

set_option maxHeartbeats 400000 in
set_option maxRecDepth 100000 in
theorem each_any (B : Nat) (s : ByteArray) (w : World) (hs : s.size * 8 ≤ 140737488355328) (hown : Own B w []) :
    Calls Try.prog 28 #[.string s, .func (.func 29) #[] #[.pointer (some ⟨B, 0, none⟩)]] w (EachPost B s w) := by
  go_enter Try.func28, Try.ntmps28
  go_wp2_with fail
  go_loopw [0, 5, 6, 7] (fun t _ _ _ wr => ∃ r : ByteArray, t = .string r ∧ r.size ≤ s.size ∧ EachRel B s w r wr) (fun t _ _ _ _ => strSize t)
  case atStart => exact ⟨s, rfl, Nat.le_refl _, [], by simp [V.encs], by simp, hown, Below.refl _ _⟩
  case round =>
    obtain ⟨r, rfl, hr, hrel⟩ := hrel
    by_cases h0 : r.size = 0
    · have he : r.toList.isEmpty = true := empty_true r h0
      go_wp2_with fail
      go_ret
      obtain ⟨xs, e1, e2, e3, e4⟩ := hrel
      exact ⟨xs, 0, rfl, e3, e4, e2, Or.inl ⟨rfl, by rw [e1, data_empty r h0, List.append_nil]⟩⟩
    · have he : r.toList.isEmpty = false := empty_false r h0
      have HR := Lib.hid hrel
      clear hrel
      rcases V.rd_bad r.data.toList with hz | hz | hz
      · obtain ⟨n, k, hnk⟩ : ∃ n k, V.rd r.data.toList = (n, k, 0) := ⟨_, _, by rw [← hz]⟩
        obtain ⟨k1, kr, hen, hn, _, _⟩ := V.rd_ok _ _ _ hnk
        rw [len_data] at kr
        have HE := Lib.hid hen
        clear hz hen
        go_wp2_with fail
        refine (read_any r _ (by unfold maxLen; omega) (by omega) he).mono ?_
        rw [hnk]
        clear hnk
        rintro e w1 ⟨rfl, hb1⟩
        go_wp2_with fail
        obtain ⟨xs, e1, e2, e3, e4⟩ := HR.out
        have hlx : (xs.length + 1) * 8 ≤ 140737488355328 := by
          have := encs_len xs
          have h1 := congrArg List.length e1
          rw [List.length_append, len_data, len_data] at h1
          omega
        refine (push_any B n xs _ (e3.below hb1) hlx).mono ?_
        rintro e w2 ⟨rfl, ho, hb2⟩
        go_wp2_with fail
        have hsz : (r.extract k r.size).size = r.size - k := by simp
        have hdt : (r.extract k r.size).data.toList = r.data.toList.drop k := cut_data r k
        have hall : s.data.toList = V.encs (xs ++ [n]) ++ (r.extract k r.size).data.toList := by
          rw [V.encs_append, V.encs_one, HE.out, hdt, List.append_assoc, List.take_append_drop, e1]
        have hmem : ∀ x ∈ xs ++ [n], x < 18446744073709551616 := by
          intro x hx
          rcases List.mem_append.1 hx with hx | hx
          · exact e2 x hx
          · rw [List.mem_singleton.1 hx]; exact hn
        have hbw : Below B w w2 := (e4.trans (hb1.mono (Nat.le_of_lt (own_lt e3)))).trans hb2
        refine ⟨⟨_, rfl, by rw [hsz]; omega, xs ++ [n], hall, hmem, ho, hbw⟩, ?_⟩
        show (r.extract k r.size).size < r.size
        omega
      · go_wp2_with fail
        refine (read_any r _ (by unfold maxLen; omega) (by omega) he).mono ?_
        rw [hz]
        rintro e w1 ⟨rfl, hb1⟩
        have HZ := Lib.hid hz
        clear hz
        go_wp2_with fail
        go_ret
        obtain ⟨xs, e1, e2, e3, e4⟩ := HR.out
        exact ⟨xs, 5, rfl, e3.below hb1, e4.trans (hb1.mono (Nat.le_of_lt (own_lt e3))), e2, Or.inr ⟨by decide, _, data_ne r h0, e1, HZ.out⟩⟩
      · go_wp2_with fail
        refine (read_any r _ (by unfold maxLen; omega) (by omega) he).mono ?_
        rw [hz]
        rintro e w1 ⟨rfl, hb1⟩
        have HZ := Lib.hid hz
        clear hz
        go_wp2_with fail
        go_ret
        obtain ⟨xs, e1, e2, e3, e4⟩ := HR.out
        exact ⟨xs, 1, rfl, e3.below hb1, e4.trans (hb1.mono (Nat.le_of_lt (own_lt e3))), e2, Or.inr ⟨by decide, _, data_ne r h0, e1, HZ.out⟩⟩

theorem own_nums {B : Nat} {w : World} {xs : List Nat} (h : Own B w xs) : ∃ a c, w.cell? ⟨B, 0, none⟩ = some (.slice a xs.length c) ∧ Nums w w.heap.size a xs := by
  obtain ⟨v, hv, hown⟩ := h
  have hc := cell_of_one hv
  rcases hown.2 with ⟨rfl, h0⟩ | ⟨g, cap, cur, rfl, e2, e3, e4⟩
  · refine ⟨none, 0, by rw [hc, h0], ?_⟩
    rw [List.eq_nil_of_length_eq_zero h0]; exact Nums.nil _ _ _
  · refine ⟨some ⟨g, 0, none⟩, cap, hc, fun _ => ⟨g, 0, rfl, lt_of_block e3, fun i hi => ?_⟩⟩
    rw [Nat.zero_add, hown.cellAt i (by omega)]
    simp [nv, List.getElem?_eq_getElem hi]

def AllPost (r : List Nat × Nat) (w : World) (e : Ending) (w' : World) : Prop :=
  ∃ a c, e = .returned (.tuple #[.slice a r.1.length c, .int .i64 r.2]) ∧ Nums w' w'.heap.size a r.1 ∧ Below w.heap.size w w'

set_option maxHeartbeats 400000 in
theorem readAll_any (s : ByteArray) (w : World) (hs : s.size * 8 ≤ 140737488355328) :
    Calls Try.prog 15 #[.string s] w (AllPost (V.rdl s.data.toList) w) := by
  have hmf : ∀ (fn : Fn) (first cap : Array Value) (w : World), (Instr.makeFunc fn first cap).run Try.prog w = .ok (.func fn first cap) w := fun _ _ _ _ => rfl
  go_enter Try.func15, Try.ntmps15
  go_wp2_with fail
  refine (each_any w.heap.size s _ hs ?h).mono ?_
  case h => exact ⟨.slice none 0 0, heap_alloc_new w _, by simp [nv], Or.inl ⟨rfl, rfl⟩⟩
  rintro e w1 ⟨xs, err, rfl, ho, hb, hx, hcase⟩
  have hbw : Below w.heap.size w w1 := ((Below.refl _ _).alloc (Nat.le_refl _) _).trans hb
  obtain ⟨a, c, hcell, hnum⟩ := own_nums ho
  rcases hcase with ⟨rfl, hd⟩ | ⟨hne, rest, hr, hd, hrd⟩
  · have HD := Lib.hid (show V.rdl s.data.toList = (xs, 0) by rw [hd]; exact V.rdl_encs xs hx)
    clear hd
    go_wp2_with fail
    go_ret2
    rw [HD.out]
    exact ⟨a, c, rfl, hnum, hbw⟩
  · have HD := Lib.hid (show V.rdl s.data.toList = ([], err) by rw [hd, V.rdl_bad xs hx rest hr (by rw [hrd]; exact hne), hrd])
    have hneq : ((err : Int) != 0) = true := by simpa using hne
    clear hd hrd
    go_wp2_with fail
    go_ret2
    rw [HD.out]
    exact ⟨none, 0, rfl, Nums.nil _ _ _, hbw⟩

end Go.Proofs.Ytpdnjfkhhkaecaa
