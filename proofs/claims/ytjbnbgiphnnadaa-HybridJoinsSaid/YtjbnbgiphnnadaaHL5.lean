/- The law HybridJoins: what it calls, and its plain part. -/
import Derived.Test.YtjbnbgiphnnadaaHL1
namespace Go.Proofs.Ytjbnbgiphnnadaa
open Go.RowKit
set_option linter.unusedVariables false

set_option maxHeartbeats 1000000 in
set_option maxRecDepth 100000 in
theorem repeated_any (y many : Nat) (w : World) (hm : many ≤ 64) :
    Calls Try.prog 16 #[.int .u64 y, .int .i64 many] w (NumsOnly (List.replicate many y) w) := by
  go_enter Try.func16, Try.ntmps16
  go_wp2_with fail
  go_loopw [5, 6] (fun v i wr => ∃ k : Nat, k ≤ many ∧ i = .int .i64 k ∧ NumRow w.heap.size (List.replicate k y) v wr ∧ Below w.heap.size w wr) (fun _ i _ => many - (intOf i).toNat)
  case atStart => exact ⟨0, by omega, rfl, ⟨rfl, Or.inl ⟨rfl, rfl⟩⟩, Below.refl _ _⟩
  case round =>
    obtain ⟨k, hk, rfl, hrow, hbw⟩ := hrel
    by_cases hlt : k < many
    · have HSN := Lib.hid (show List.replicate (k + 1) y = List.replicate k y ++ [y] from List.replicate_succ')
      have hzl : (List.replicate k y).length = k := List.length_replicate
      generalize List.replicate k y = zs at *
      have hrow' : wr.ownsRow w.heap.size 33 1 u5 zs.length (nv zs) := hrow
      have HROW := Lib.hid hrow'
      clear hrow hrow'
      have hb5 : w.heap.size ≤ (wr.alloc (.cells #[.int .u64 (y : Int)] 33)).heap.size := by have := hbw.size; simp; omega
      go_wp2_with (at_builtin; refine wpList_append_one rfl (.tmp 12) (.tmp 14) rfl w.heap.size _ zs.length _ rfl (HROW.out.alloc _) wr.heap.size y rfl (World.cell?_alloc_new _ _ _ _) (by omega) hb5 ?_)
      intro v' w5 hown5 hgrow5
      go_wp2_with fail
      have hbw5 : Below w.heap.size w w5 := (hbw.alloc hbw.size _).grown hgrow5 (by have := hbw.size; simp; omega) (fun k hk => (HROW.out.lt k hk).1)
      refine ⟨⟨k + 1, by omega, by go_num, ?_, hbw5⟩, by simp [intOf]; omega⟩
      rw [HSN.out]; unfold NumRow; rw [List.length_append, hzl]; simpa [nv, hzl] using hown5
    · obtain rfl : k = many := by omega
      obtain ⟨a, c, rfl, hnum⟩ := numRow_nums hrow
      rw [List.length_replicate]
      have HN := Lib.hid hnum
      clear hnum hrow
      go_wp2_with fail
      go_ret
      exact ⟨a, c, by rw [List.length_replicate]; rfl, HN.out, hbw⟩

theorem loose_all : ∀ (n : Nat) (l : List Nat), l.length ≤ n → (∀ j, j < l.length → H.row (l.drop j) < 8) → H.loose l = l.length := by
  intro n
  induction n with
  | zero =>
    intro l hl _
    obtain rfl : l = [] := List.eq_nil_of_length_eq_zero (by omega)
    rfl
  | succ n ih =>
    intro l hl h
    by_cases h0 : l = []
    · subst h0; rfl
    · have hp : 1 ≤ l.length := List.length_pos_iff.2 h0
      have h1 := h 0 (by omega)
      rw [List.drop_zero] at h1
      rw [H.loose_go l (fun e => e.elim h0 (fun e => by omega)), ih (l.drop 8) (by rw [List.length_drop]; omega) (fun j hj => by
        rw [List.length_drop] at hj
        rw [List.drop_drop]; exact h _ (by omega)), List.length_drop]
      omega

/-- what stands in no row of eight is one part -/
theorem bytes_norow (w : Nat) (l : List Nat) (h0 : l ≠ []) (h : ∀ j, j < l.length → H.row (l.drop j) < 8) : H.parts l = [.blk l] := by
  have hp : 1 ≤ l.length := List.length_pos_iff.2 h0
  have h1 := h 0 (by omega)
  rw [List.drop_zero] at h1
  rw [H.parts_blk l h0 (by omega), loose_all _ l (Nat.le_refl _) h, List.take_length, List.drop_length, H.parts_nil]

theorem read_join (w : Nat) (a b : List Nat) (hab : a.length + b.length ≤ 64) (ha : ∀ x ∈ a, x < 2 ^ w) (hb : ∀ x ∈ b, x < 2 ^ w) (h8 : a.length % 8 = 0) (h : ∀ j, j < a.length → H.row (a.drop j) < 8) :
    H.read (H.bytes w a ++ H.bytes w b) (a.length + b.length) w = (a ++ b, 0) := by
  have hb2 := H.read_back w b (by omega) hb
  by_cases h0 : a = []
  · subst h0
    rw [H.bytes_nil]
    simpa using hb2
  · have hp : 1 ≤ a.length := List.length_pos_iff.2 h0
    have hps := bytes_norow w a h0 h
    have hr := H.read_parts w [.blk a] (a.length + b.length) (H.bytes w b) hab ⟨⟨ha, hp, by omega, Or.inl h8⟩, trivial⟩
    have e : H.bytes w a = [H.Part.blk a].flatMap (H.Part.bytes w) := by unfold H.bytes; rw [hps]
    rw [e, hr]
    simp only [List.flatMap_cons, List.flatMap_nil, List.append_nil, H.Part.nums, Nat.add_sub_cancel_left]
    rw [hb2]; simp [H.pre]

/-- eight in a row -/
theorem row_eight (l : List Nat) (i : Nat) (h : 8 ≤ H.row (l.drop i)) : i + 8 ≤ l.length ∧ l.getD i 0 = l.getD (i + 7) 0 ∧ (l.drop i).take 8 = List.replicate 8 (l.getD i 0) := by
  have hle := H.row_le (l.drop i)
  rw [List.length_drop] at hle
  have hx : ∀ j, j < 8 → l.getD (i + j) 0 = (l.drop i).headD 0 := fun j hj => by
    have := H.rowF_all ((l.drop i).headD 0) (l.drop i) j (by unfold H.row at h; omega)
    rw [← this]; simp [List.getD, List.getElem?_drop]
  have h0 := hx 0 (by omega)
  rw [Nat.add_zero] at h0
  refine ⟨by omega, by rw [h0, hx 7 (by omega)], ?_⟩
  have ht := H.row_take (l.drop i)
  have : (l.drop i).take 8 = ((l.drop i).take (H.row (l.drop i))).take 8 := by rw [List.take_take, Nat.min_eq_left h]
  rw [this, ht, List.take_replicate, Nat.min_eq_left h, h0]
end Go.Proofs.Ytjbnbgiphnnadaa
