/- Slices of ints that the call made; rows that are read and written. -/
import Derived.Test.YtpjmpbpbfjemdaaUBlk
import Derived.Test.YtpjmpbpbfjemdaaBitsU2
import Derived.Laws.OwnMore
namespace Go.Proofs.Ytpjmpbpbfjemdaa
open Go.RowKit
set_option linter.unusedVariables false

def iv (l : List Nat) : List Value := l.map fun x : Nat => Value.int .i64 (x : Int)
theorem iv_length (l : List Nat) : (iv l).length = l.length := by simp [iv]
theorem info_i64 : (Try.prog.info? 3).map (fun i => (i.zero, i.size, i.bytes)) = some (some (.int .i64 0), 1, 8) := by kernel_rfl

/-- a slice's ints, read below block B -/
def INums (w : World) (B : Nat) (a : Option Addr) (l : List Nat) : Prop :=
  l ≠ [] → ∃ b off, a = some ⟨b, off, none⟩ ∧ b < B ∧ ∀ i, i < l.length → w.cell? ⟨b, off + i, none⟩ = some (.int .i64 ((l.getD i 0 : Nat) : Int))
theorem INums.below {w w' : World} {B : Nat} {a : Option Addr} {l : List Nat} (h : INums w B a l) (hb : Below B w w') : INums w' B a l := by
  intro hl
  obtain ⟨b, off, e, hlt, hc⟩ := h hl
  exact ⟨b, off, e, hlt, fun i hi => by rw [hb.cell (p := ⟨b, off + i, none⟩) hlt]; exact hc i hi⟩
theorem INums.mono {w : World} {B B' : Nat} {a : Option Addr} {l : List Nat} (h : INums w B a l) (hB : B ≤ B') : INums w B' a l := by
  intro hl
  obtain ⟨b, off, e, hlt, hc⟩ := h hl
  exact ⟨b, off, e, by omega, hc⟩
theorem INums.nil (w : World) (B : Nat) (a : Option Addr) : INums w B a [] := fun h => absurd rfl h
theorem INums.next {w w' : World} {a : Option Addr} {l : List Nat} (h : INums w w.heap.size a l) (hb : Below w.heap.size w w') : INums w' w'.heap.size a l := (h.below hb).mono hb.size

/-- a slice of ints that the call made -/
def IRow (B : Nat) (xs : List Nat) (v : Value) (wr : World) : Prop := wr.ownsRow B 3 1 v xs.length (iv xs)
theorem iRow_nums {B : Nat} {xs : List Nat} {v : Value} {w : World} (h : IRow B xs v w) : ∃ a c, v = .slice a xs.length c ∧ INums w w.heap.size a xs := by
  unfold IRow at h
  rcases h.2 with ⟨rfl, h0⟩ | ⟨g, cap, cur, rfl, e2, e3, e4⟩
  · refine ⟨none, 0, by rw [h0], ?_⟩
    rw [List.eq_nil_of_length_eq_zero h0]; exact INums.nil _ _ _
  · refine ⟨some ⟨g, 0, none⟩, cap, rfl, fun _ => ⟨g, 0, rfl, lt_of_block e3, fun i hi => ?_⟩⟩
    rw [Nat.zero_add, h.cellAt i (by omega)]
    simp [iv, List.getElem?_eq_getElem hi]

theorem IRow.mono {B B' : Nat} {xs : List Nat} {v : Value} {w : World} (h : IRow B' xs v w) (hB : B ≤ B') : IRow B xs v w := by
  refine ⟨h.1, ?_⟩
  rcases h.2 with hn | ⟨g, cap, cur, e1, e2, e3⟩
  · exact Or.inl hn
  · exact Or.inr ⟨g, cap, cur, e1, by omega, e3⟩
theorem IRow.below {B : Nat} {xs : List Nat} {v : Value} {w w' : World} (h : IRow B xs v w) (hb : Below w.heap.size w w') : IRow B xs v w' := row_below h hb
theorem IRow.nums {B : Nat} {xs : List Nat} {a : Option Addr} {n c : Nat} {w : World} (h : IRow B xs (.slice a n c) w) : INums w w.heap.size a xs := by
  obtain ⟨a', c', e, hn⟩ := iRow_nums h
  injection e with e1 e2 e3
  rw [e1]; exact hn
theorem IRow.form {B : Nat} {xs : List Nat} {a : Option Addr} {n c : Nat} {w : World} (h : IRow B xs (.slice a n c) w) (hne : xs ≠ []) : ∃ g, a = some ⟨g, 0, none⟩ ∧ n = xs.length ∧ B ≤ g ∧ g < w.heap.size := by
  unfold IRow at h
  rcases h.2 with ⟨he, h0⟩ | ⟨g, cap, cur, he, e2, e3, e4⟩
  · exact absurd (List.eq_nil_of_length_eq_zero h0) hne
  · injection he with h1 h2 h3
    exact ⟨g, h1, h2, e2, lt_of_block e3⟩
theorem IRow.cell {B : Nat} {xs : List Nat} {g n c : Nat} {w : World} (h : IRow B xs (.slice (some ⟨g, 0, none⟩) n c) w) (i : Nat) (hi : i < xs.length) : w.cell? ⟨g, i, none⟩ = some (.int .i64 ((xs.getD i 0 : Nat) : Int)) := by
  obtain ⟨a', c', e, hn⟩ := iRow_nums h
  injection e with e1 e2 e3
  subst e2
  unfold IRow at h
  rw [h.cellAt i (by omega)]
  simp [iv, List.getElem?_eq_getElem hi]
theorem NumRow.keep {B : Nat} {xs : List Nat} {g n c : Nat} {w w' : World} (h : NumRow B xs (.slice (some ⟨g, 0, none⟩) n c) w) (hb : w'.heap[g]? = w.heap[g]?) : NumRow B xs (.slice (some ⟨g, 0, none⟩) n c) w' := by
  refine ⟨h.1, ?_⟩
  rcases h.2 with ⟨he, h0⟩ | ⟨g', cap, cur, he, e2, e3, e4⟩
  · cases he
  · injection he with h1 h2 h3
    injection h1 with h1
    injection h1 with h1
    subst h1
    exact Or.inr ⟨g, cap, cur, by rw [h2, h3], e2, hb.trans e3, e4⟩
theorem IRow.alloc_ {B : Nat} {xs : List Nat} {v : Value} {w : World} (h : IRow B xs v w) (o : Obj) : IRow B xs v (w.alloc o) := World.ownsRow.alloc h o
/-- append of one int onto a row of the call's own -/
theorem wpList_append_onei {w : World} {ops : Array Oper} {rest : List Oper} {o : Oper} {a : Act} {Q : Exit → Act → World → Prop} (hgd : o.guard = none) (s x : Operand)
    (ho : o.op = .call { callee := .builtin .append, args := #[s, x], argTypes := #[60, 60] }) (base : Nat)
    (v : Value) (xs : List Nat) (hs : a.eval s = v) (hown : IRow base xs v w)
    (g : Nat) (y : Nat) (hx : a.eval x = .slice (some ⟨g, 0, none⟩) 1 1) (hc : w.cell? ⟨g, 0, none⟩ = some (.int .i64 (y : Int)))
    (hbytes : (xs.length + 1) * 8 ≤ 140737488355328) (hbase : base ≤ w.heap.size)
    (h : ∀ v' w', IRow base (xs ++ [y]) v' w' → Below base w w' → wpList Try.prog ops Q rest (a.put o.dst v') w') : wpList Try.prog ops Q (o :: rest) a w := by
  obtain ⟨i, hi, hz0, hz1, hz2⟩ := info_parts info_i64
  refine wpList_append_own w hgd s x 60 ho base 3 i (.int .i64 0) 1 8 Try.underlying60 hi hz0 hz1 hz2 rfl (by decide) v xs.length (iv xs) hs hown ⟨g, 0, none⟩ 1 1 [.int .i64 (y : Int)] hx rfl ?_ ?_ (by unfold maxLen; omega) hbytes hbase (fun v' w' h1 h2 _ => h v' w' ?_ ?_)
  · intro j u hj
    match j, hj with
    | 0, hj => simp at hj; subst hj; simpa [Addr.add] using hc
  · intro u hu; simp at hu; subst hu; rfl
  · unfold IRow; rw [List.length_append]; simpa [iv] using h1
  · exact (Below.refl base w).grown h2 hbase (fun k hk => (hown.lt k hk).1)

/-- a row of numbers that the call made, known by its block -/
theorem NumRow.form {B : Nat} {xs : List Nat} {a : Option Addr} {n c : Nat} {w : World} (h : NumRow B xs (.slice a n c) w) (hne : xs ≠ []) : ∃ g, a = some ⟨g, 0, none⟩ ∧ n = xs.length ∧ B ≤ g ∧ g < w.heap.size := by
  unfold NumRow at h
  rcases h.2 with ⟨he, h0⟩ | ⟨g, cap, cur, he, e2, e3, e4⟩
  · exact absurd (List.eq_nil_of_length_eq_zero h0) hne
  · injection he with h1 h2 h3
    exact ⟨g, h1, h2, e2, lt_of_block e3⟩
theorem NumRow.len {B : Nat} {xs : List Nat} {a : Option Addr} {n c : Nat} {w : World} (h : NumRow B xs (.slice a n c) w) : n = xs.length := by
  obtain ⟨a', c', e, _⟩ := numRow_nums h
  injection e
theorem NumRow.cell {B : Nat} {xs : List Nat} {g n c : Nat} {w : World} (h : NumRow B xs (.slice (some ⟨g, 0, none⟩) n c) w) (i : Nat) (hi : i < xs.length) : w.cell? ⟨g, i, none⟩ = some (.int .u64 ((xs.getD i 0 : Nat) : Int)) := by
  obtain rfl := h.len
  unfold NumRow at h
  rw [h.cellAt i (by omega)]
  simp [nv, List.getElem?_eq_getElem hi]
theorem NumRow.free {B : Nat} {xs : List Nat} {g n c : Nat} {w : World} (h : NumRow B xs (.slice (some ⟨g, 0, none⟩) n c) w) (i : Nat) : w.frozen? ⟨g, i, none⟩ = false := by
  obtain rfl := h.len
  exact h.frozenAt i
theorem NumRow.put {B : Nat} {xs : List Nat} {g n c : Nat} {w : World} (h : NumRow B xs (.slice (some ⟨g, 0, none⟩) n c) w) (i x : Nat) : NumRow B (xs.set i x) (.slice (some ⟨g, 0, none⟩) n c) (w.setCell ⟨g, i, none⟩ (.int .u64 (x : Int))) := by
  obtain rfl := h.len
  unfold NumRow at *
  have := (h.stored i (.int .u64 (x : Int))).1
  rw [List.length_set]
  have e : nv (xs.set i x) = (nv xs).set i (.int .u64 (x : Int)) := by simp [nv, List.map_set]
  rw [e]; exact this
theorem NumRow.drew_ {B : Nat} {xs : List Nat} {v : Value} {w : World} (h : NumRow B xs v w) : NumRow B xs v w.drew := World.ownsRow.drew h
theorem NumRow.below {B : Nat} {xs : List Nat} {v : Value} {w w' : World} (h : NumRow B xs v w) (hb : Below w.heap.size w w') : NumRow B xs v w' := row_below h hb

/-- a list that was answered is the call's own -/
def AllPostR (r : List Nat × Nat) (w : World) (e : Ending) (w' : World) : Prop :=
  ∃ a c, e = .returned (.tuple #[.slice a r.1.length c, .int .i64 r.2]) ∧ NumRow w.heap.size r.1 (.slice a r.1.length c) w' ∧ r.1.length ≤ c ∧ c ≤ maxLen ∧ Below w.heap.size w w'
theorem OwnB.row {base B : Nat} {w : World} {xs : List Nat} (h : OwnB base B w xs) : ∃ a c, w.cell? ⟨B, 0, none⟩ = some (.slice a xs.length c) ∧ NumRow base xs (.slice a xs.length c) w ∧ xs.length ≤ c ∧ c ≤ maxLen := by
  obtain ⟨h0, v, hv, hown⟩ := h
  obtain ⟨a, c, rfl, _, h1, h2⟩ := numRow_numsc hown
  exact ⟨a, c, cell_of_one hv, hown, h1, h2⟩
theorem nilRow (B : Nat) (w : World) : NumRow B [] (.slice none 0 0) w := ⟨rfl, Or.inl ⟨rfl, rfl⟩⟩

set_option maxHeartbeats 1000000 in
set_option maxRecDepth 100000 in
theorem unpackr_any (s : ByteArray) (many wide : Int) (w : World) (hs : s.size ≤ maxLen) :
    Calls Try.prog 80 #[.string s, .int .i64 many, .int .i64 wide] w (AllPostR (unpR s.data.toList many wide) w) := by
  have hmf : ∀ (fn : Fn) (first cap : Array Value) (w : World), (Instr.makeFunc fn first cap).run Try.prog w = .ok (.func fn first cap) w := fun _ _ _ _ => rfl
  obtain ⟨i0, hi, hz0, hz1, hz2⟩ := info_parts info_u64
  have hck := fun w => check_any s many wide w hs
  by_cases hc : chkR s.data.toList many wide = 0
  · obtain ⟨m, n, rfl, rfl, hm, hn, hl, hq⟩ := chk_zero _ _ _ hc
    have HR := Lib.hid (show unpR s.data.toList m n = (B.dg n m (B.leN s.data.toList), 0) by rw [unpR, if_pos hc]; simp)
    rw [hc] at hck
    have HCK := Lib.hid hck
    rw [len_data] at hl
    have hmn : m * n ≤ 64 * 64 := Nat.mul_le_mul hm hn
    have h8 : m * n ≤ 8 * s.size ∧ s.size ≤ 4096 := by rw [hl]; unfold B.sz; omega
    have HBE := Lib.hid (fun base Bk w ho => beach_any base Bk s m n w hn hm h8.1 h8.2 ho)
    clear hck hc hq hl hmn h8
    generalize B.dg n m (B.leN s.data.toList) = xs at *
    go_enter Try.func80, Try.ntmps80
    go_wp2_with fail
    refine (HCK.out _).mono ?_
    rintro e w1 ⟨rfl, rfl⟩
    go_wp2_with (at_make; refine wpList_make_own _ rfl _ _ 22 rfl w.heap.size 23 i0 (.int .u64 0) 1 Try.underlying22 hi hz0 hz1 .i64 .i64 _ m rfl rfl rfl (by rw [hz2]; omega) (by unfold maxLen; omega) (Nat.le_refl _) ?_; intro w0 hown0 hgrow0)
    have hb0 : Below w.heap.size w w0 := (Below.refl _ _).grown hgrow0 (Nat.le_refl _) (fun k hk => by cases hk)
    have hob : OwnB w.heap.size w0.heap.size (w0.alloc (.cells #[.slice (some ⟨w.heap.size, 0, none⟩) 0 m] 22)) [] :=
      ⟨hb0.size, _, heap_alloc_new w0 _, hown0.alloc _⟩
    clear hown0 hgrow0
    go_wp2_with fail
    refine (HBE.out w.heap.size w0.heap.size _ hob).mono ?_
    rintro e w2 ⟨rfl, ho2, hb2⟩
    obtain ⟨a, c, hcell, hrow, hlc, hcm⟩ := ho2.row
    go_wp2_with fail
    go_ret2
    rw [HR.out]
    exact ⟨a, c, rfl, hrow, hlc, hcm, (hb0.alloc hb0.size _).trans hb2⟩
  · have HR := Lib.hid (show unpR s.data.toList many wide = ([], chkR s.data.toList many wide) by rw [unpR, if_neg hc])
    have g1 : ((chkR s.data.toList many wide : Int) != 0) = true := by rw [bne_iff_ne]; omega
    generalize chkR s.data.toList many wide = er at *
    have HCK := Lib.hid hck
    clear hck hc
    go_enter Try.func80, Try.ntmps80
    go_wp2_with fail
    refine (HCK.out _).mono ?_
    rintro e w1 ⟨rfl, rfl⟩
    go_wp2_with fail
    go_ret2
    rw [HR.out]
    exact ⟨none, 0, rfl, nilRow _ _, Nat.le_refl _, by unfold maxLen; omega, Below.refl _ _⟩
end Go.Proofs.Ytpjmpbpbfjemdaa
