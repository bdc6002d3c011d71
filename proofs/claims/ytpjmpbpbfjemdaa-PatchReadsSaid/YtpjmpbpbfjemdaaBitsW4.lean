/- The walks of bits.check, bits.each, bits.Unpack, bits.Get. -/
import Derived.Test.YtpjmpbpbfjemdaaBitsW3
namespace Go.Proofs.Ytpjmpbpbfjemdaa
open Go.RowKit
set_option linter.unusedVariables false

/-- a captured slice of numbers in block B, its row from block base on -/
def OwnB (base B : Nat) (w : World) (xs : List Nat) : Prop :=
  base ≤ B ∧ ∃ v, w.heap[B]? = some (.cells #[v] 22 (0, 0)) ∧ w.ownsRow base 23 1 v xs.length (nv xs)

theorem own_other {w : World} {base B n : Nat} {u v : Value} {xs : List Value} (h : w.heap[B]? = some (.cells #[u] 22 (0, 0))) (ho : w.ownsRow base 23 1 v n xs) : v.ownBlock ≠ some B := by
  rcases ho.2 with ⟨rfl, _⟩ | ⟨g, cap, cur, rfl, _, hh, _⟩
  · simp [Value.ownBlock]
  · intro he
    have hg : g = B := by simpa [Value.ownBlock] using he
    rw [hg, h] at hh
    injection hh with hh
    injection hh with _ ht
    exact absurd ht (by decide)

theorem OwnB.below {base B : Nat} {w w' : World} {xs : List Nat} (h : OwnB base B w xs) (hb : Below w.heap.size w w') : OwnB base B w' xs := by
  obtain ⟨h0, v, hv, hown⟩ := h
  exact ⟨h0, v, (hb.block B (lt_of_block hv)).trans hv, row_below hown hb⟩

theorem OwnB.nums {base B : Nat} {w : World} {xs : List Nat} (h : OwnB base B w xs) : ∃ a c, w.cell? ⟨B, 0, none⟩ = some (.slice a xs.length c) ∧ Nums w w.heap.size a xs := by
  obtain ⟨h0, v, hv, hown⟩ := h
  obtain ⟨a, c, rfl, hn⟩ := numRow_nums hown
  exact ⟨a, c, cell_of_one hv, hn⟩

set_option maxHeartbeats 400000 in
set_option maxRecDepth 100000 in
theorem upush_any (base B x : Nat) (xs : List Nat) (w : World) (h : OwnB base B w xs) (hb : (xs.length + 1) * 8 ≤ 140737488355328) :
    Calls Try.prog 90 #[.int .u64 x, .pointer (some ⟨B, 0, none⟩)] w fun e w' => e = .returned (.tuple #[]) ∧ OwnB base B w' (xs ++ [x]) ∧ Below base w w' := by
  obtain ⟨hbase, v, hv, hown⟩ := h
  obtain ⟨i, hi, hz0, hz1, hz2⟩ := info_parts info_u64
  have hc := cell_of_one hv
  have hf := free_of_one hv
  have hB := lt_of_block hv
  have hne0 := own_other hv hown
  go_enter Try.func90, Try.ntmps90
  go_wp2_with (at_builtin; refine wpList_append_own _ rfl (.tmp 3) (.tmp 5) 22 rfl base 23 i (.int .u64 0) 1 8 Try.underlying22 hi hz0 hz1 hz2 rfl (by decide) v xs.length _ rfl (hown.alloc _) ⟨w.heap.size, 0, none⟩ 1 1 [.int .u64 x] rfl rfl ?c1 ?c2 (by unfold maxLen; omega) hb (by simp; omega) ?_)
  case c1 =>
    intro j u hj
    match j, hj with
    | 0, hj => simp at hj; subst hj; simp [Addr.add]
  case c2 => intro u hu; simp at hu; subst hu; rfl
  intro v' w1 hown' hgrow _
  have hne : some B ≠ v.ownBlock := fun h => hne0 h.symm
  obtain ⟨g', cap', hv', _, hlt⟩ := hown'.form (by omega)
  have hv1 : w1.heap[B]? = some (.cells #[v] 22 (0, 0)) := by
    rw [hgrow.block B (by simp; omega) hne, Below.heap_alloc _ _ _ hB]; exact hv
  have hne1 := own_other hv1 hown'
  have hc1 := cell_of_one hv1
  have hf1 := free_of_one hv1
  rw [hv']
  go_wp2
  go_end0
  refine ⟨rfl, ⟨hbase, _, one_setCell hv1, ?_⟩, ?_⟩
  · have := ownsRow_setCell_other hown' (a := ⟨B, 0, none⟩) hne1 v'
    rw [hv'] at this
    simpa [nv] using this
  · exact ((((Below.refl base w).alloc (by omega) _).grown hgrow (by simp; omega) (fun k hk => (hown.lt k hk).1))).setCell hbase _

def chkF (l : List UInt8) (M : Nat) : Nat := if l.length ≠ B.sz M ∨ B.leN l / 2 ^ M ≠ 0 then 1 else 0
def chkR (l : List UInt8) (many wide : Int) : Nat :=
  if wide < 0 ∨ 64 < wide ∨ many < 0 then 3 else if 64 < many then 2
  else chkF l (many.toNat * wide.toNat)

set_option maxHeartbeats 400000 in
theorem check_range (s : ByteArray) (many wide : Int) (w : World) (h : wide < 0 ∨ 64 < wide ∨ many < 0) :
    Calls Try.prog 88 #[.string s, .int .i64 many, .int .i64 wide] w fun e w' => e = .returned (.int .i64 3) ∧ w = w' := by
  by_cases h0 : wide < 0
  · have g1 : decide (wide < 0) = true := by simp; omega
    go_enter Try.func88, Try.ntmps88
    go_wp2_with fail
    go_ret
    exact ⟨rfl, rfl⟩
  · have g1 : decide (wide < 0) = false := by simp; omega
    by_cases h1 : 64 < wide
    · have g2 : decide (64 < wide) = true := by simp; omega
      go_enter Try.func88, Try.ntmps88
      go_wp2_with fail
      go_ret
      exact ⟨rfl, rfl⟩
    · have g2 : decide (64 < wide) = false := by simp; omega
      have g3 : decide (many < 0) = true := by simp; omega
      go_enter Try.func88, Try.ntmps88
      go_wp2_with fail
      go_ret
      exact ⟨rfl, rfl⟩

set_option maxHeartbeats 400000 in
theorem check_many (s : ByteArray) (many : Int) (wide : Nat) (w : World) (h : wide ≤ 64) (hm : 64 < many) :
    Calls Try.prog 88 #[.string s, .int .i64 many, .int .i64 wide] w fun e w' => e = .returned (.int .i64 2) ∧ w = w' := by
  have g1 : decide ((wide : Int) < 0) = false := by simp
  have g2 : decide ((64 : Int) < (wide : Int)) = false := by simp; omega
  have g3 : decide (many < 0) = false := by simp; omega
  go_enter Try.func88, Try.ntmps88
  go_wp2_with fail
  go_ret
  exact ⟨rfl, rfl⟩

theorem top_bits (l : List UInt8) (E : Nat) (h : E ≤ 8 * l.length) : B.leN l / 2 ^ E % 2 ^ (8 * l.length - E) = B.leN l / 2 ^ E := by
  apply Nat.mod_eq_of_lt
  have := B.leN_lt l
  rw [B.two8] at this
  rw [Nat.div_lt_iff_lt_mul (B.pos2 E), ← Nat.pow_add, Nat.sub_add_cancel h]
  exact this

set_option maxHeartbeats 1000000 in
theorem check_in (s : ByteArray) (many wide : Nat) (w : World) (h : wide ≤ 64) (hm : many ≤ 64) (hs : s.size ≤ maxLen) :
    Calls Try.prog 88 #[.string s, .int .i64 many, .int .i64 wide] w fun e w' => e = .returned (.int .i64 (chkF s.data.toList (many * wide))) ∧ w = w' := by
  unfold maxLen at hs
  have g1 : decide ((wide : Int) < 0) = false := by simp
  have g2 : decide ((64 : Int) < (wide : Int)) = false := by simp; omega
  have g3 : decide ((many : Int) < 0) = false := by simp
  have hmul : many * wide ≤ 64 * 64 := Nat.mul_le_mul hm h
  have hmulI : ((many : Int) * (wide : Int)) = ((many * wide : Nat) : Int) := by simp
  have htop := top_bits s.data.toList (many * wide)
  rw [len_data] at htop
  generalize many * wide = M at *
  by_cases hz : s.size = B.sz M
  · have hM8 : M ≤ 8 * s.size := by rw [hz]; unfold B.sz; omega
    have hsm : s.size ≤ 4096 ∧ 8 * s.size - M ≤ 7 := by rw [hz]; unfold B.sz; omega
    have htk := fun w => take_any s M (8 * s.size - M) w (by omega) (by omega) (by omega) (by unfold maxLen; omega)
    rw [htop hM8] at htk
    have g4 : ((s.size : Int) != (B.sz M : Int)) = false := by rw [hz]; simp
    have hsub : ((8 : Int) * (s.size : Int) - (M : Int)) = ((8 * s.size - M : Nat) : Int) := by omega
    have HZ := Lib.hid hz
    clear hz htop
    by_cases hq : B.leN s.data.toList / 2 ^ M = 0
    · rw [hq] at htk
      have HTK := Lib.hid htk
      have HQ := Lib.hid hq
      clear htk hq
      go_enter Try.func88, Try.ntmps88
      go_wp2_with fail
      refine (bsize_any M _ (by omega)).mono ?_
      rintro e w1 ⟨rfl, rfl⟩
      go_wp2_with fail
      refine (HTK.out _).mono ?_
      rintro e w1 ⟨rfl, rfl⟩
      go_wp2_with fail
      go_ret
      refine ⟨?_, rfl⟩
      rw [chkF, if_neg (by rw [HQ.out, len_data]; simp; exact HZ.out)]; rfl
    · have HQ' := Lib.hid hq
      have g5 : (((B.leN s.data.toList / 2 ^ M : Nat) : Int) != 0) = true := by rw [bne_iff_ne]; omega
      generalize B.leN s.data.toList / 2 ^ M = X at htk g5
      have HTK := Lib.hid htk
      clear htk hq
      go_enter Try.func88, Try.ntmps88
      go_wp2_with fail
      refine (bsize_any M _ (by omega)).mono ?_
      rintro e w1 ⟨rfl, rfl⟩
      go_wp2_with fail
      refine (HTK.out _).mono ?_
      rintro e w1 ⟨rfl, rfl⟩
      go_wp2_with fail
      go_ret
      refine ⟨?_, rfl⟩
      rw [chkF, if_pos (Or.inr HQ'.out)]; rfl
  · have g4 : ((s.size : Int) != (B.sz M : Int)) = true := by rw [bne_iff_ne]; omega
    have HZ := Lib.hid hz
    clear hz htop
    go_enter Try.func88, Try.ntmps88
    go_wp2_with fail
    refine (bsize_any M _ (by omega)).mono ?_
    rintro e w1 ⟨rfl, rfl⟩
    go_wp2_with fail
    go_ret
    refine ⟨?_, rfl⟩
    rw [chkF, if_pos (Or.inl (by rw [len_data]; exact HZ.out))]; rfl

theorem check_any (s : ByteArray) (many wide : Int) (w : World) (hs : s.size ≤ maxLen) :
    Calls Try.prog 88 #[.string s, .int .i64 many, .int .i64 wide] w fun e w' => e = .returned (.int .i64 (chkR s.data.toList many wide)) ∧ w = w' := by
  by_cases h0 : wide < 0 ∨ 64 < wide ∨ many < 0
  · rw [chkR, if_pos h0]; exact check_range s many wide w h0
  obtain ⟨n, rfl⟩ : ∃ n : Nat, wide = n := ⟨wide.toNat, by omega⟩
  rw [chkR, if_neg h0]
  by_cases h1 : 64 < many
  · rw [if_pos h1]; exact check_many s many n w (by omega) h1
  obtain ⟨m, rfl⟩ : ∃ m : Nat, many = m := ⟨many.toNat, by omega⟩
  rw [if_neg h1, Int.toNat_natCast, Int.toNat_natCast]
  exact check_in s m n w (by omega) (by omega) hs

/-- what a text says that is right -/
theorem chk_zero (l : List UInt8) (many wide : Int) (h : chkR l many wide = 0) : ∃ m n : Nat, many = m ∧ wide = n ∧ m ≤ 64 ∧ n ≤ 64 ∧ l.length = B.sz (m * n) ∧ B.leN l / 2 ^ (m * n) = 0 := by
  unfold chkR at h
  by_cases h0 : wide < 0 ∨ 64 < wide ∨ many < 0
  · rw [if_pos h0] at h; omega
  rw [if_neg h0] at h
  by_cases h1 : 64 < many
  · rw [if_pos h1] at h; omega
  rw [if_neg h1] at h
  unfold chkF at h
  refine ⟨many.toNat, wide.toNat, by omega, by omega, by omega, by omega, ?_⟩
  by_cases h2 : l.length ≠ B.sz (many.toNat * wide.toNat) ∨ B.leN l / 2 ^ (many.toNat * wide.toNat) ≠ 0
  · rw [if_pos h2] at h; omega
  · omega

set_option maxHeartbeats 1000000 in
set_option maxRecDepth 100000 in
theorem beach_any (base Bk : Nat) (s : ByteArray) (many wide : Nat) (w : World) (h : wide ≤ 64) (hm : many ≤ 64) (hs : many * wide ≤ 8 * s.size) (hz : s.size ≤ 4096) (hown : OwnB base Bk w []) :
    Calls Try.prog 89 #[.string s, .int .i64 many, .int .i64 wide, .func (.func 90) #[] #[.pointer (some ⟨Bk, 0, none⟩)]] w fun e w' => e = .returned (.tuple #[]) ∧ OwnB base Bk w' (B.dg wide many (B.leN s.data.toList)) ∧ Below base w w' := by
  generalize hT : B.leN s.data.toList = T
  have HT := Lib.hid hT
  clear hT
  have HS := Lib.hid hs
  clear hs
  go_enter Try.func89, Try.ntmps89
  go_wp2_with fail
  go_loopw [8, 10] (fun _ i wr => ∃ k : Nat, k ≤ many ∧ i = .int .i64 k ∧ OwnB base Bk wr (B.dg wide k T) ∧ Below base w wr) (fun _ i _ => many - (intOf i).toNat)
  case atStart => exact ⟨0, by omega, rfl, hown, Below.refl _ _⟩
  case round =>
    obtain ⟨k, hk, rfl, ho, hbw⟩ := hrel
    by_cases hlt : k < many
    · have hkw : k * wide + wide ≤ many * wide := by
        rw [show k * wide + wide = (k + 1) * wide by rw [Nat.add_mul, Nat.one_mul]]; exact Nat.mul_le_mul_right _ (by omega)
      have hmw : many * wide ≤ 64 * 64 := Nat.mul_le_mul hm h
      have hkI : ((k : Int) * (wide : Int)) = ((k * wide : Nat) : Int) := by simp
      have htk := fun w => take_any s (k * wide) wide w h (by have := HS.out; omega) (by omega) (by unfold maxLen; omega)
      rw [HT.out] at htk
      have HTK := Lib.hid htk
      have HSN := Lib.hid (B.dg_snoc wide k T)
      rw [Nat.mul_comm wide k] at HSN
      have hln := B.dg_length wide k T
      have HPU := Lib.hid (upush_any base Bk (T / 2 ^ (k * wide) % 2 ^ wide) (B.dg wide k T) wr ho (by rw [hln]; omega))
      clear htk hln
      have hfb : k * wide ≤ 4096 := by omega
      generalize hf : k * wide = f at *
      generalize T / 2 ^ f % 2 ^ wide = x at *
      clear hf hmw hkw
      go_wp2_with fail
      refine (HTK.out _).mono ?_
      rintro e w1 ⟨rfl, rfl⟩
      go_wp2_with fail
      refine (HPU.out).mono ?_
      rintro e w2 ⟨rfl, ho2, hb2⟩
      go_wp2_with fail
      exact ⟨⟨k + 1, by omega, by go_num, by rw [HSN.out]; exact ho2, hbw.trans hb2⟩, by simp [intOf]; omega⟩
    · obtain rfl : k = many := by omega
      go_wp2_with fail
      go_end0
      exact ⟨rfl, ho, hbw⟩

def unpR (l : List UInt8) (many wide : Int) : List Nat × Nat :=
  if chkR l many wide = 0 then (B.dg wide.toNat many.toNat (B.leN l), 0) else ([], chkR l many wide)

set_option maxHeartbeats 1000000 in
set_option maxRecDepth 100000 in
theorem unpack_any (s : ByteArray) (many wide : Int) (w : World) (hs : s.size ≤ maxLen) :
    Calls Try.prog 80 #[.string s, .int .i64 many, .int .i64 wide] w (AllPost (unpR s.data.toList many wide) w) := by
  have hmf : ∀ (fn : Fn) (first cap : Array Value) (w : World), (Instr.makeFunc fn first cap).run Try.prog w = .ok (.func fn first cap) w := fun _ _ _ _ => rfl
  obtain ⟨i0, hi, hz0, hz1, hz2⟩ := info_parts info_u64
  have hck := fun w => check_any s many wide w hs
  by_cases hc : chkR s.data.toList many wide = 0
  · obtain ⟨m, n, rfl, rfl, hm, hn, hl, hq⟩ := chk_zero _ _ _ hc
    have HR := Lib.hid (show unpR s.data.toList m n = (B.dg n m (B.leN s.data.toList), 0) by rw [unpR, if_pos hc]; simp)
    rw [hc] at hck
    have HCK := Lib.hid hck
    rw [len_data] at hl
    have hmn : m * n ≤ 64 * 64 := Nat.mul_le_mul hm hn
    have h8 : m * n ≤ 8 * s.size ∧ s.size ≤ 4096 := by rw [hl]; unfold B.sz; omega
    have HBE := Lib.hid (fun base Bk w ho => beach_any base Bk s m n w hn hm h8.1 h8.2 ho)
    clear hck hc hq hl hmn h8
    generalize B.dg n m (B.leN s.data.toList) = xs at *
    go_enter Try.func80, Try.ntmps80
    go_wp2_with fail
    refine (HCK.out _).mono ?_
    rintro e w1 ⟨rfl, rfl⟩
    go_wp2_with (at_make; refine wpList_make_own _ rfl _ _ 22 rfl w.heap.size 23 i0 (.int .u64 0) 1 Try.underlying22 hi hz0 hz1 .i64 .i64 _ m rfl rfl rfl (by rw [hz2]; omega) (by unfold maxLen; omega) (Nat.le_refl _) ?_; intro w0 hown0 hgrow0)
    have hb0 : Below w.heap.size w w0 := (Below.refl _ _).grown hgrow0 (Nat.le_refl _) (fun k hk => by cases hk)
    have hob : OwnB w.heap.size w0.heap.size (w0.alloc (.cells #[.slice (some ⟨w.heap.size, 0, none⟩) 0 m] 22)) [] :=
      ⟨hb0.size, _, heap_alloc_new w0 _, hown0.alloc _⟩
    clear hown0 hgrow0
    go_wp2_with fail
    refine (HBE.out w.heap.size w0.heap.size _ hob).mono ?_
    rintro e w2 ⟨rfl, ho2, hb2⟩
    obtain ⟨a, c, hcell, hnum⟩ := ho2.nums
    go_wp2_with fail
    go_ret2
    rw [HR.out]
    exact ⟨a, c, rfl, hnum, (hb0.alloc hb0.size _).trans hb2⟩
  · have HR := Lib.hid (show unpR s.data.toList many wide = ([], chkR s.data.toList many wide) by rw [unpR, if_neg hc])
    have g1 : ((chkR s.data.toList many wide : Int) != 0) = true := by rw [bne_iff_ne]; omega
    generalize chkR s.data.toList many wide = er at *
    have HCK := Lib.hid hck
    clear hck hc
    go_enter Try.func80, Try.ntmps80
    go_wp2_with fail
    refine (HCK.out _).mono ?_
    rintro e w1 ⟨rfl, rfl⟩
    go_wp2_with fail
    go_ret2
    rw [HR.out]
    exact ⟨none, 0, rfl, Nums.nil _ _ _, Below.refl _ _⟩

def getR (l : List UInt8) (many wide at_ : Int) : Nat × Nat :=
  if chkR l many wide = 0 then (if at_ < 0 ∨ many ≤ at_ then (0, 3) else (B.leN l / 2 ^ (at_.toNat * wide.toNat) % 2 ^ wide.toNat, 0)) else (0, chkR l many wide)

def GetPost (r : Nat × Nat) (w : World) (e : Ending) (w' : World) : Prop := e = .returned (.tuple #[.int .u64 r.1, .int .i64 r.2]) ∧ Below w.heap.size w w'
end Go.Proofs.Ytpjmpbpbfjemdaa
