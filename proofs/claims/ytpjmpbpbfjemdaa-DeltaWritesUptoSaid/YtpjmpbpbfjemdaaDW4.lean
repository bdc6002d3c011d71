/- The walk of delta.parse. -/
import Derived.Test.YtpjmpbpbfjemdaaDW3
import Derived.Test.YtpjmpbpbfjemdaaHW11
namespace Go.Proofs.Ytpjmpbpbfjemdaa
open Go.RowKit
set_option linter.unusedVariables false

theorem hfirst_lt (s : List UInt8) (left w : Nat) : ∀ x ∈ (H.first s left w).2.1.nums, x < 2 ^ w := by
  unfold H.first
  split
  · intro x hx; simp [H.Part.nums] at hx
  · unfold H.firstL
    split
    · intro x hx; simp [H.Part.nums] at hx
    · split
      · intro x hx; simp [H.Part.nums] at hx
      · unfold H.body
        split
        · intro x hx; simp [H.Part.nums] at hx
        · split
          · intro x hx
            have h1 := B.dg_length w 1 (B.leN (((s.drop (V.rd s).2.1).take (B.sz (H.held (V.rd s).1 * w)))))
            have h2 := B.dg_lt w 1 (B.leN (((s.drop (V.rd s).2.1).take (B.sz (H.held (V.rd s).1 * w)))))
            simp only [H.Part.nums] at hx
            obtain ⟨_, rfl⟩ := List.mem_replicate.1 hx
            generalize B.dg w 1 (B.leN (((s.drop (V.rd s).2.1).take (B.sz (H.held (V.rd s).1 * w))))) = d at *
            cases d with
            | nil => simp at h1
            | cons y t => exact h2 y (by simp)
          · split
            · intro x hx; simp [H.Part.nums] at hx
            · intro x hx
              exact B.dg_lt _ _ _ x (List.mem_of_mem_take hx)
theorem hreadF_lt (f : Nat) (s : List UInt8) (left w : Nat) : ∀ x ∈ (H.readF f s left w).1, x < 2 ^ w := by
  induction f generalizing s left with
  | zero => intro x hx; simp [H.readF] at hx
  | succ f ih =>
    unfold H.readF
    split
    · intro x hx; simp at hx
    · split
      · intro x hx; simp at hx
      · unfold H.pre
        split
        · intro x hx; simp at hx
        · intro x hx
          rcases List.mem_append.1 hx with h | h
          · exact hfirst_lt _ _ _ x h
          · exact ih _ _ x h
theorem hreadR_lt (s : List UInt8) (many wide : Int) : ∀ x ∈ (hreadR s many wide).1, x < 18446744073709551616 := by
  unfold hreadR
  split
  · intro x hx; simp at hx
  · split
    · intro x hx; simp at hx
    · intro x hx
      exact Nat.lt_of_lt_of_le (hreadF_lt _ _ _ _ x hx) (Nat.pow_le_pow_right (n := 2) (by omega) (show wide.toNat ≤ 64 by omega))
theorem hreadR_len (s : List UInt8) (many wide : Int) : (hreadR s many wide).1.length ≤ many.toNat := by
  unfold hreadR
  split
  · simp
  · split
    · simp
    · by_cases h : (H.read s many.toNat wide.toNat).2 = 0
      · exact Nat.le_of_eq (H.read_length s many.toNat wide.toNat h)
      · rw [H.read_err s many.toNat wide.toNat h]; simp

def parse2 (n wd : Nat) (h : List Nat × Nat) : Nat × List Nat × Nat := if h.2 ≠ 0 then (0, [], h.2) else if B.wd h.1 ≠ wd then (0, [], 1) else (n, h.1, 0)
def parseR (s : List UInt8) (many : Nat) : Nat × List Nat × Nat :=
  if (V.rd s).2.2 ≠ 0 then (0, [], (V.rd s).2.2) else if s.length = (V.rd s).2.1 then (0, [], 5)
  else parse2 (V.rd s).1 (s.getD (V.rd s).2.1 0).toNat (hreadR (s.drop ((V.rd s).2.1 + 1)) (many - 1 : Nat) ((s.getD (V.rd s).2.1 0).toNat : Nat))
def ParsePost (r : Nat × List Nat × Nat) (w : World) (e : Ending) (w' : World) : Prop :=
  ∃ a c, e = .returned (.tuple #[.int .u64 r.1, .slice a r.2.1.length c, .int .i64 r.2.2]) ∧ Nums w' w'.heap.size a r.2.1 ∧ r.2.1.length ≤ c ∧ c ≤ maxLen ∧ Below w.heap.size w w'
theorem ParsePost.none {w w' : World} (n er : Nat) (h : Below w.heap.size w w') : ParsePost (n, [], er) w (.returned (.tuple #[.int .u64 n, .slice none 0 0, .int .i64 er])) w' :=
  ⟨Option.none, 0, rfl, Nums.nil _ _ _, Nat.le_refl _, by unfold maxLen; omega, h⟩

set_option maxHeartbeats 1000000 in
set_option maxRecDepth 100000 in
theorem parse_any (s : ByteArray) (many : Nat) (w : World) (hs : s.size ≤ maxLen) (hm1 : 1 ≤ many) (hm : many ≤ 64) :
    Calls Try.prog 43 #[.string s, .int .i64 many] w (ParsePost (parseR s.data.toList many) w) := by
  have hv := fun w => vread_any s w hs
  have hmax := hs
  unfold maxLen at hmax
  unfold parseR
  by_cases he : (V.rd s.data.toList).2.2 = 0
  · rw [if_neg (by simp [he])]
    obtain ⟨n, k, hr⟩ : ∃ n k, V.rd s.data.toList = (n, k, 0) := ⟨_, _, by rw [← he]⟩
    obtain ⟨k1, k2, _, k4, k5, _⟩ := V.rd_ok _ _ _ hr
    rw [hr] at hv ⊢
    rw [len_data] at k2 ⊢
    have HV := Lib.hid hv
    clear hv hr he
    by_cases hl : s.size = k
    · rw [if_pos hl]
      have g1 : ((s.size : Int) == (k : Int)) = true := by rw [beq_iff_eq]; omega
      go_enter Try.func43, Try.ntmps43
      go_wp2_with fail
      refine (HV.out _).mono ?_
      rintro e1 w1 ⟨rfl, hb⟩
      go_wp2_with fail
      go_ret3
      exact ParsePost.none 0 5 hb
    · rw [if_neg hl]
      have g1 : ((s.size : Int) == (k : Int)) = false := by rw [beq_eq_false_iff_ne]; omega
      have hks : k < s.size := by omega
      have hksI : (k : Int) < (s.size : Int) := by omega
      have hks2 : ((k + 1 : Nat) : Int) ≤ (s.size : Int) := by omega
      have hsub : ((many : Int) - 1) = ((many - 1 : Nat) : Int) := by omega
      have hbyte : s.data.toList.getD k 0 = s[k] := by simp [List.getD, ByteArray.getElem_eq_getElem_data, hks]
      simp only [hbyte]
      have hu8 := s[k].toNat_lt
      have hw64 : wrap64 (s[k].toNat : Int) = (s[k].toNat : Int) := by
        unfold wrap64; omega
      have hrd := fun W => hread_any (s.extract (k + 1) s.size) ((many - 1 : Nat) : Int) (s[k].toNat : Int) W (by simp; unfold maxLen; omega)
      rw [cut_data] at hrd
      have hrl := hreadR_lt (s.data.toList.drop (k + 1)) ((many - 1 : Nat) : Int) (s[k].toNat : Int)
      have hrn := hreadR_len (s.data.toList.drop (k + 1)) ((many - 1 : Nat) : Int) (s[k].toNat : Int)
      rw [Int.toNat_natCast] at hrn
      generalize hreadR (s.data.toList.drop (k + 1)) ((many - 1 : Nat) : Int) (s[k].toNat : Int) = r at *
      obtain ⟨zs, er⟩ := r
      simp only at hrl hrn
      have HRD := Lib.hid hrd
      have HWD := Lib.hid (fun W A c' h => width_any A c' zs W W.heap.size (by unfold maxLen; omega) hrl h)
      clear hrd hrl hbyte
      unfold parse2
      simp only
      by_cases hz : er = 0
      · subst hz
        rw [if_neg (by simp)]
        by_cases hwe : B.wd zs = s[k].toNat
        · rw [if_neg (by simp [hwe])]
          rw [hwe] at HWD
          go_enter Try.func43, Try.ntmps43
          go_wp2_with fail
          refine (HV.out _).mono ?_
          rintro e1 w1 ⟨rfl, hb⟩
          go_wp2_with fail
          refine (HRD.out _).mono ?_
          rintro e2 w2 ⟨A, c2, rfl, hn2, hlc2, hcm2, hb2⟩
          go_wp2_with fail
          refine (HWD.out _ _ _ hn2).mono ?_
          rintro e3 w3 ⟨rfl, rfl⟩
          go_wp2_with fail
          go_ret3
          exact ⟨_, _, rfl, hn2, hlc2, hcm2, below_then hb hb2⟩
        · rw [if_pos hwe]
          have g2 : ((B.wd zs : Int) != (s[k].toNat : Int)) = true := by rw [bne_iff_ne]; omega
          go_enter Try.func43, Try.ntmps43
          go_wp2_with fail
          refine (HV.out _).mono ?_
          rintro e1 w1 ⟨rfl, hb⟩
          go_wp2_with fail
          refine (HRD.out _).mono ?_
          rintro e2 w2 ⟨A, c2, rfl, hn2, hlc2, hcm2, hb2⟩
          go_wp2_with fail
          refine (HWD.out _ _ _ hn2).mono ?_
          rintro e3 w3 ⟨rfl, rfl⟩
          go_wp2_with fail
          go_ret3
          exact ParsePost.none 0 1 (below_then hb hb2)
      · rw [if_pos hz]
        have g2 : ((er : Int) != 0) = true := by rw [bne_iff_ne]; omega
        go_enter Try.func43, Try.ntmps43
        go_wp2_with fail
        refine (HV.out _).mono ?_
        rintro e1 w1 ⟨rfl, hb⟩
        go_wp2_with fail
        refine (HRD.out _).mono ?_
        rintro e2 w2 ⟨A, c2, rfl, hn2, hlc2, hcm2, hb2⟩
        go_wp2_with fail
        go_ret3
        exact ParsePost.none 0 er (below_then hb hb2)
  · rw [if_pos he]
    generalize V.rd s.data.toList = r at *
    have g1 : ((r.2.2 : Int) != 0) = true := by rw [bne_iff_ne]; omega
    have HV := Lib.hid hv
    clear hv
    go_enter Try.func43, Try.ntmps43
    go_wp2_with fail
    refine (HV.out _).mono ?_
    rintro e1 w1 ⟨rfl, hb⟩
    go_wp2_with fail
    go_ret3
    exact ParsePost.none 0 _ hb
end Go.Proofs.Ytpjmpbpbfjemdaa
