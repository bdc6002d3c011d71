/- The walk of vary.All. -/
import Derived.Test.YtplhlnlonjlcaaaVaryR6
namespace Go.Proofs.Ytplhlnlonjlcaaa
open Go.RowKit
set_option linter.unusedVariables false

def OutRel (B : Nat) (bs : List UInt8) (v : Value) (wr : World) : Prop :=
  (∃ g cap, v = .slice (some ⟨g, 0, none⟩) bs.length cap) ∧ wr.ownsRow B 5 1 v bs.length (bv bs)

theorem encs_le (l : List Nat) : (V.encs l).length ≤ 9 * l.length := by
  induction l with
  | nil => simp [V.encs]
  | cons x l ih => rw [V.encs_cons, List.length_append, V.enc_length, List.length_cons]; have := V.sz_le x; omega

theorem encs_snoc (l : List Nat) (k : Nat) (hk : k < l.length) : V.encs (l.take (k + 1)) = V.encs (l.take k) ++ V.enc (l.getD k 0) := by
  rw [List.take_succ_eq_append_getElem hk, V.encs_append, V.encs_one]
  simp [List.getD, List.getElem?_eq_getElem hk]

theorem news9 (w : World) (c0 c1 c2 c3 c4 c5 c6 c7 c8 k : Nat) (l : List UInt8) (hl : [c0, c1, c2, c3, c4, c5, c6, c7, c8].take k = l.map (·.toNat)) :
    ∀ (j : Nat) (u : Value), (bv l)[j]? = some u → (w.alloc (.cells #[.int .u8 c0, .int .u8 c1, .int .u8 c2, .int .u8 c3, .int .u8 c4, .int .u8 c5, .int .u8 c6, .int .u8 c7, .int .u8 c8] 51)).cell? ((⟨w.heap.size, 0, none⟩ : Addr).add j) = some u := by
  intro j u hj
  have hadd : (⟨w.heap.size, 0, none⟩ : Addr).add j = ⟨w.heap.size, j, none⟩ := by unfold Addr.add; split <;> simp_all
  rw [hadd, World.cell?_alloc_new]
  have e : bv l = ([c0, c1, c2, c3, c4, c5, c6, c7, c8].take k).map fun x : Nat => Value.int .u8 (x : Int) := by
    rw [hl]; simp [bv]
  rw [e, List.getElem?_map, List.getElem?_take] at hj
  split at hj
  · have hlt : j < 9 := by
      rcases Nat.lt_or_ge j 9 with h | h
      · exact h
      · rw [List.getElem?_eq_none (by simpa using h)] at hj; simp at hj
    have : j = 0 ∨ j = 1 ∨ j = 2 ∨ j = 3 ∨ j = 4 ∨ j = 5 ∨ j = 6 ∨ j = 7 ∨ j = 8 := by omega
    rcases this with rfl | rfl | rfl | rfl | rfl | rfl | rfl | rfl | rfl <;> exact hj
  · simp at hj

theorem own_text (B : Nat) (bs : List UInt8) (g cap : Nat) (w : World) (h : w.ownsRow B 5 1 (.slice (some ⟨g, 0, none⟩) bs.length cap) bs.length (bv bs)) :
    (convert 38 9 (.slice (some ⟨g, 0, none⟩) bs.length cap)).run Try.prog w = .ok (.string (str bs)) w := by
  rw [← str_of bs]
  refine run_convert_bytes_arg _ 38 5 Try.underlying38 Try.underlying5 _ 0 bs.length cap _ (by simp) ?_ 9 Try.underlying9
  intro i hi
  rw [Nat.zero_add, h.cellAt i (by omega)]
  simp [bv, List.getElem?_eq_getElem hi]

set_option maxHeartbeats 1000000 in
set_option maxRecDepth 100000 in
theorem all_some (b off c : Nat) (l : List Nat) (w : World) (hl : l.length ≤ 1048576) (hx : ∀ x ∈ l, x < 18446744073709551616) (hb : b < w.heap.size)
    (h1 : ∀ i, i < l.length → w.cell? ⟨b, off + i, none⟩ = some (.int .u64 ((l.getD i 0 : Nat) : Int))) :
    Calls Try.prog 21 #[.slice (some ⟨b, off, none⟩) l.length c] w (TextPost (V.encs l) w) := by
  obtain ⟨i0, hi, hz0, hz1, hz2⟩ := info_parts info_u8
  have H1 := Lib.hid h1
  have HX := Lib.hid hx
  clear h1 hx
  go_enter Try.func21, Try.ntmps21
  go_wp2_with (at_make; refine wpList_make_own _ rfl _ _ 38 rfl w.heap.size 5 i0 (.int .u8 0) 1 Try.underlying38 hi hz0 hz1 .i64 .i64 _ l.length rfl rfl (by omega) (by rw [hz2]; omega) (by unfold maxLen; omega) (Nat.le_refl _) ?_; intro w0 hown0 hgrow0)
  have hb0 : Below w.heap.size w w0 := (Below.refl _ _).grown hgrow0 (Nat.le_refl _) (fun k hk => by cases hk)
  have hor0 : OutRel w.heap.size (V.encs (l.take 0)) (.slice (some ⟨w.heap.size, 0, none⟩) 0 l.length) w0 := ⟨⟨_, _, rfl⟩, hown0⟩
  clear hown0 hgrow0
  go_loopw [3, 5, 6, 7, 13] (fun v _ _ _ i wr => ∃ k : Nat, k ≤ l.length ∧ i = .int .i64 k ∧ OutRel w.heap.size (V.encs (l.take k)) v wr ∧ Below w.heap.size w wr) (fun _ _ _ _ i _ => l.length - (intOf i).toNat)
  case atStart => exact ⟨0, by omega, rfl, hor0, hb0⟩
  case round =>
    obtain ⟨k, hk, rfl, ⟨⟨g, cap, rfl⟩, hown⟩, hbw⟩ := hrel
    by_cases hlt : k < l.length
    · have hcell : wr.cell? ⟨b, off + k, none⟩ = some (.int .u64 ((l.getD k 0 : Nat) : Int)) := by
        rw [hbw.cell (p := ⟨b, off + k, none⟩) hb]; exact H1.out k hlt
      have hxk := HX.out _ (getD_mem l k hlt)
      have HS := Lib.hid (encs_snoc l k hlt)
      have hel := encs_le (l.take k)
      rw [List.length_take] at hel
      have h9 := V.sz_le (l.getD k 0)
      have hlen := V.enc_length (l.getD k 0)
      generalize l.getD k 0 = n at *
      generalize V.encs (l.take k) = bs at *
      have HLEN := Lib.hid hlen
      clear hlen
      have hsl := fun b w => run_cut9 b w (V.sz n) h9
      go_wp2_with fail
      refine (spell_any n _ hxk).mono ?_
      rintro e w1 ⟨c0, c1, c2, c3, c4, c5, c6, c7, c8, rfl, hl9, hb1⟩
      have hnews := news9 w1 c0 c1 c2 c3 c4 c5 c6 c7 c8 _ _ hl9
      have hown1 := row_below hown hb1
      have HN := Lib.hid hnews
      clear hl9 hnews
      have hw1 : w.heap.size ≤ w1.heap.size := Nat.le_trans hbw.size hb1.size
      have hb01 : Below w.heap.size w w1 := hbw.trans (hb1.mono hbw.size)
      go_wp2_with (at_builtin; refine wpList_append_own _ rfl (.tmp 22) (.tmp 24) 38 rfl w.heap.size 5 i0 (.int .u8 0) 1 1 Try.underlying38 hi hz0 hz1 hz2 rfl (by decide) _ bs.length _ rfl (hown1.alloc _) ⟨w1.heap.size, 0, none⟩ (V.sz n) 9 (bv (V.enc n)) rfl (by rw [bv_length, HLEN.out]; omega) HN.out ?c2 ?c3 ?c4 ?c5 ?_)
      case c2 => intro u hu; simp only [bv, List.mem_map] at hu; obtain ⟨x, _, rfl⟩ := hu; rfl
      case c3 => unfold maxLen; omega
      case c4 => omega
      case c5 => simp; omega
      intro v' w2 hown2 hgrow2 hnil
      go_wp2_with fail
      have hlx : (V.encs (l.take (k + 1))).length = bs.length + V.sz n := by rw [HS.out, List.length_append, HLEN.out]
      have h1n := V.sz_ge n
      obtain ⟨g', cap', hv', _, _⟩ := hown2.form (by omega)
      have hrel' : OutRel w.heap.size (V.encs (l.take (k + 1))) v' w2 := by
        refine ⟨⟨g', cap', by rw [hlx]; exact hv'⟩, ?_⟩
        rw [hlx, HS.out]
        simpa [bv] using hown2
      have hbw2 : Below w.heap.size w w2 := (hb01.alloc hw1 _).grown hgrow2 (by simp; omega) (fun k hk => (hown1.lt k hk).1)
      exact ⟨⟨k + 1, by omega, by go_num, hrel', hbw2⟩, by simp [intOf]; omega⟩
    · obtain rfl : k = l.length := by omega
      have htx := own_text _ _ _ _ _ hown
      rw [List.take_length] at htx ⊢
      go_wp2_with fail
      go_ret
      exact ⟨rfl, hbw⟩

set_option maxHeartbeats 400000 in
set_option maxRecDepth 100000 in
theorem all_nil (a : Option Addr) (c : Nat) (w : World) :
    Calls Try.prog 21 #[.slice a 0 c] w (TextPost [] w) := by
  obtain ⟨i0, hi, hz0, hz1, hz2⟩ := info_parts info_u8
  go_enter Try.func21, Try.ntmps21
  go_wp2_with (at_make; refine wpList_make_own _ rfl _ _ 38 rfl w.heap.size 5 i0 (.int .u8 0) 1 Try.underlying38 hi hz0 hz1 .i64 .i64 _ 0 rfl rfl rfl (by rw [hz2]; omega) (by unfold maxLen; omega) (Nat.le_refl _) ?_; intro w0 hown0 hgrow0)
  have hb0 : Below w.heap.size w w0 := (Below.refl _ _).grown hgrow0 (Nat.le_refl _) (fun k hk => by cases hk)
  have htx := own_text _ [] _ _ _ hown0
  simp only [List.length_nil] at htx
  refine wp_loop_rounds 1 ?_
  rw [rounds_succ]
  go_wp2_with fail
  go_ret
  exact ⟨rfl, hb0⟩

theorem all_any (a : Option Addr) (c : Nat) (l : List Nat) (w : World) (hl : l.length ≤ 1048576) (hx : ∀ x ∈ l, x < 18446744073709551616) (hu : Nums w w.heap.size a l) :
    Calls Try.prog 21 #[.slice a l.length c] w (TextPost (V.encs l) w) := by
  by_cases hn : l = []
  · subst hn; exact all_nil a c w
  · obtain ⟨b, off, rfl, hb, hc⟩ := hu hn
    exact all_some b off c l w hl hx hb hc
end Go.Proofs.Ytplhlnlonjlcaaa
