/- BaseC, Base, BaseB, BitsPlain, Shelf64, BitsW1, BitsW2, BitsW3, BitsW4, BitsF, One, BitsW6, BitsPk, VaryPlain, HPlain, VaryW1, Shelf. -/
import Derived.Test.YtcachhnhncodoaaGreatRows
import Derived.WalkKit
import Derived.WalkSpells
import Derived.WalkLawsBesides
import Derived.Lib.Hide
import Derived.Lib.Strings
import Derived.Deep.RegionWith
import Derived.Deep.RegionHeld3
import Derived.Deep.QuietTactic
import Derived.BigQuiet
import Derived.StillTailTactics
import Derived.RegionTactic
import Derived.BigRegion
import Derived.OneCell
import Derived.Deep.AppendLies
import Derived.Laws.AppendOwnNone
import Derived.Laws.BytesArg
import Derived.Lib.BitFns
import Derived.Shelf.Strconv.Itoa0
import Derived.Test.YtcachhnhncodoaaGreatProg
import GoSem.Op.String
import Derived.Shelf.Small.Bits
namespace Go.Proofs.YtcachhnhncodoaaGreat
open Go.RowKit
set_option linter.unusedVariables false
theorem bcell {W w1 : World} (hb : Below W.heap.size W w1) : (∀ b o, b < W.heap.size → w1.cell? ⟨b, o, none⟩ = W.cell? ⟨b, o, none⟩) ∧ (∀ b o, b < W.heap.size → w1.frozen? ⟨b, o, none⟩ = W.frozen? ⟨b, o, none⟩) :=
  ⟨fun b o h => hb.cell (p := ⟨b, o, none⟩) h, fun b o h => hb.frozen (p := ⟨b, o, none⟩) h⟩
def str (l : List UInt8) : ByteArray := ⟨l.toArray⟩
theorem str_data (l : List UInt8) : (str l).data.toList = l := rfl
theorem str_size (l : List UInt8) : (str l).size = l.length := by simp [str, ByteArray.size]
theorem str_of (l : List UInt8) : strOfNums (l.map fun b => (b.toNat : Int)) = str l := by
  have : ((fun n : Int => UInt8.ofNat n.toNat) ∘ fun b : UInt8 => (b.toNat : Int)) = id := by funext b; simp
  simp [strOfNums, str, this]
theorem Calls.quiet_same {P : Program} {f : FuncId} {args : Array Value} {w : World} {n : Nat} {v : Value}
    (h : Calls P f args (w.drewN n) fun e w' => e = .returned v ∧ w.drewN n = w') : Calls P f args (w.drewN n) fun e w'' => e = .returned v ∧ ∃ m, w'' = w.drewN m :=
  h.mono fun _ _ ⟨he, hm⟩ => ⟨he, n, hm.symm⟩
theorem len_data (s : ByteArray) : s.data.toList.length = s.size := Array.length_toList
theorem head_cons (s : ByteArray) (h0 : 0 < s.size) : ∃ l, s.data.toList = s[0] :: l := by
  obtain ⟨c, t, hd⟩ := List.exists_cons_of_length_pos (l := s.data.toList) (by rw [len_data]; exact h0)
  have : s.data.toList[0]? = some c := by rw [hd]; rfl
  rw [Array.getElem?_toList, Array.getElem?_eq_getElem h0] at this
  exact ⟨t, by rw [hd, ← Option.some.inj this]; rfl⟩
theorem byte_at (s : ByteArray) (j : Nat) (hj : j + 1 < s.size) : (s.data.toList.drop 1)[j]? = some s[j + 1] := by
  rw [List.getElem?_drop, Nat.add_comm, Array.getElem?_toList]
  exact Array.getElem?_eq_getElem hj
def nv (l : List Nat) : List Value := l.map fun x : Nat => Value.int .u64 (x : Int)
theorem nv_length (l : List Nat) : (nv l).length = l.length := by simp [nv]
theorem info_u64 : (Tryz.prog.info? 34).map (fun i => (i.zero, i.size, i.bytes)) = some (some (.int .u64 0), 1, 8) := by kernel_rfl
theorem empty_true (r : ByteArray) (h : r.size = 0) : r.toList.isEmpty = true := by
  rw [ByteArray.toList_eq, List.isEmpty_iff_length_eq_zero, len_data]; exact h
theorem empty_false (r : ByteArray) (h : ¬ r.size = 0) : r.toList.isEmpty = false := by
  rw [ByteArray.toList_eq, ← Bool.not_eq_true, List.isEmpty_iff_length_eq_zero, len_data]; exact h
theorem data_empty (r : ByteArray) (h : r.size = 0) : r.data.toList = [] := List.eq_nil_of_length_eq_zero (by rw [len_data]; exact h)
theorem data_ne (r : ByteArray) (h : ¬ r.size = 0) : r.data.toList ≠ [] := fun e => h (by rw [← len_data, e]; rfl)
theorem cut_data (r : ByteArray) (k : Nat) : (r.extract k r.size).data.toList = r.data.toList.drop k := by
  rw [Lib.extract_data, ← len_data, List.take_of_length_le (by rw [List.length_drop]; omega)]
def strSize : Value → Nat
  | .string r => r.size
  | _ => 0
def Nums (w : World) (B : Nat) (a : Option Addr) (l : List Nat) : Prop :=
  l ≠ [] → ∃ b off, a = some ⟨b, off, none⟩ ∧ b < B ∧ ∀ i, i < l.length → w.cell? ⟨b, off + i, none⟩ = some (.int .u64 ((l.getD i 0 : Nat) : Int))
theorem Nums.below {w w' : World} {B : Nat} {a : Option Addr} {l : List Nat} (h : Nums w B a l) (hb : Below B w w') : Nums w' B a l := by
  intro hl
  obtain ⟨b, off, e, hlt, hc⟩ := h hl
  exact ⟨b, off, e, hlt, fun i hi => by rw [hb.cell (p := ⟨b, off + i, none⟩) hlt]; exact hc i hi⟩
theorem Nums.mono {w : World} {B B' : Nat} {a : Option Addr} {l : List Nat} (h : Nums w B a l) (hB : B ≤ B') : Nums w B' a l := by
  intro hl
  obtain ⟨b, off, e, hlt, hc⟩ := h hl
  exact ⟨b, off, e, by omega, hc⟩
theorem Nums.nil (w : World) (B : Nat) (a : Option Addr) : Nums w B a [] := fun h => absurd rfl h
theorem take_eq_succ (l m : List Nat) (k : Nat) (hlm : l.length = m.length) (hk : k < l.length) (h : l.take k = m.take k) (hq : l.getD k 0 = m.getD k 0) : l.take (k + 1) = m.take (k + 1) := by
  rw [List.take_succ_eq_append_getElem hk, List.take_succ_eq_append_getElem (show k < m.length by omega), h]
  simp only [List.getD, List.getElem?_eq_getElem hk, List.getElem?_eq_getElem (show k < m.length by omega), Option.getD_some] at hq
  rw [hq]
theorem ne_at (l m : List Nat) (k : Nat) (hq : l.getD k 0 ≠ m.getD k 0) : ¬ l = m := fun e => hq (by rw [e])
theorem take_eq_all (l m : List Nat) (k : Nat) (hlm : l.length = m.length) (hk : l.length ≤ k) (h : l.take k = m.take k) : l = m := by
  rwa [List.take_of_length_le hk, List.take_of_length_le (by omega)] at h
def BoolPost (b : Bool) (w : World) (e : Ending) (w' : World) : Prop := e = .returned (.bool b) ∧ Below w.heap.size w w'
theorem below_then {w w1 w2 : World} (h : Below w.heap.size w w1) (k : Below w1.heap.size w1 w2) : Below w.heap.size w w2 := h.trans (k.mono h.size)
theorem ret_bool {b c : Bool} (h : b = c) : Ending.returned (.bool b) = .returned (.bool c) := by rw [h]
theorem str_toList (l : List UInt8) : (str l).toList = l := by rw [ByteArray.toList_eq]; rfl
theorem take_data (r : ByteArray) (k : Nat) : (r.extract 0 k).data.toList = r.data.toList.take k := by
  rw [Lib.extract_data]; simp
def AllPost (r : List Nat × Nat) (w : World) (e : Ending) (w' : World) : Prop :=
  ∃ a c, e = .returned (.tuple #[.slice a r.1.length c, .int .i64 r.2]) ∧ Nums w' w'.heap.size a r.1 ∧ Below w.heap.size w w'
theorem row_below {w w' : World} {B : Nat} {e : TypeId} {sz : Nat} {v : Value} {n : Nat} {xs : List Value} (h : w.ownsRow B e sz v n xs) (hb : Below w.heap.size w w') : w'.ownsRow B e sz v n xs := by
  refine ⟨h.1, ?_⟩
  rcases h.2 with hn | ⟨g, cap, cur, e1, e2, e3, e4⟩
  · exact Or.inl hn
  · exact Or.inr ⟨g, cap, cur, e1, e2, (hb.block g (lt_of_block e3)).trans e3, e4⟩
theorem getD_mem (l : List Nat) (k : Nat) (hk : k < l.length) : l.getD k 0 ∈ l := by
  simp only [List.getD, List.getElem?_eq_getElem hk, Option.getD_some]
  exact List.getElem_mem hk
def NumRow (B : Nat) (xs : List Nat) (v : Value) (wr : World) : Prop := wr.ownsRow B 34 1 v xs.length (nv xs)
theorem numRow_nums {B : Nat} {xs : List Nat} {v : Value} {w : World} (h : NumRow B xs v w) : ∃ a c, v = .slice a xs.length c ∧ Nums w w.heap.size a xs := by
  unfold NumRow at h
  rcases h.2 with ⟨rfl, h0⟩ | ⟨g, cap, cur, rfl, e2, e3, e4⟩
  · refine ⟨none, 0, by rw [h0], ?_⟩
    rw [List.eq_nil_of_length_eq_zero h0]; exact Nums.nil _ _ _
  · refine ⟨some ⟨g, 0, none⟩, cap, rfl, fun _ => ⟨g, 0, rfl, lt_of_block e3, fun i hi => ?_⟩⟩
    rw [Nat.zero_add, h.cellAt i (by omega)]
    simp [nv, List.getElem?_eq_getElem hi]
theorem Nums.next {w w' : World} {a : Option Addr} {l : List Nat} (h : Nums w w.heap.size a l) (hb : Below w.heap.size w w') : Nums w' w'.heap.size a l := (h.below hb).mono hb.size
end Go.Proofs.YtcachhnhncodoaaGreat
namespace Go.Proofs.YtcachhnhncodoaaGreat
open Go.RowKit
set_option linter.unusedVariables false
def Own (B : Nat) (w : World) (xs : List Nat) : Prop :=
  ∃ v, w.heap[B]? = some (.cells #[v] 44 (0, 0)) ∧ w.ownsRow (B + 1) 34 1 v xs.length (nv xs)
theorem Own.below {B : Nat} {w w' : World} {xs : List Nat} (h : Own B w xs) (hb : Below w.heap.size w w') : Own B w' xs := by
  obtain ⟨v, hv, hown⟩ := h
  have hB := lt_of_block hv
  refine ⟨v, (hb.block B hB).trans hv, ?_⟩
  refine ⟨hown.1, ?_⟩
  rcases hown.2 with hn | ⟨g, cap, cur, e1, e2, e3, e4⟩
  · exact Or.inl hn
  · exact Or.inr ⟨g, cap, cur, e1, e2, (hb.block g (lt_of_block e3)).trans e3, e4⟩
theorem own_lt {B : Nat} {w : World} {xs : List Nat} (h : Own B w xs) : B < w.heap.size := by
  obtain ⟨v, hv, _⟩ := h
  exact lt_of_block hv
theorem own_nums {B : Nat} {w : World} {xs : List Nat} (h : Own B w xs) : ∃ a c, w.cell? ⟨B, 0, none⟩ = some (.slice a xs.length c) ∧ Nums w w.heap.size a xs := by
  obtain ⟨v, hv, hown⟩ := h
  have hc := cell_of_one hv
  rcases hown.2 with ⟨rfl, h0⟩ | ⟨g, cap, cur, rfl, e2, e3, e4⟩
  · refine ⟨none, 0, by rw [hc, h0], ?_⟩
    rw [List.eq_nil_of_length_eq_zero h0]; exact Nums.nil _ _ _
  · refine ⟨some ⟨g, 0, none⟩, cap, hc, fun _ => ⟨g, 0, rfl, lt_of_block e3, fun i hi => ?_⟩⟩
    rw [Nat.zero_add, hown.cellAt i (by omega)]
    simp [nv, List.getElem?_eq_getElem hi]
theorem wpList_append_nums {w : World} {ops : Array Oper} {rest : List Oper} {o : Oper} {a : Act} {Q : Exit → Act → World → Prop} (hgd : o.guard = none) (s x : Operand)
    (ho : o.op = .call { callee := .builtin .append, args := #[s, x], argTypes := #[44, 44] }) (base : Nat)
    (v : Value) (n : Nat) (xs : List Value) (hs : a.eval s = v) (hown : w.ownsRow base 34 1 v n xs)
    (A : Option Addr) (m c : Nat) (l : List Nat) (hm : l.length = m) (hx : a.eval x = .slice A m c) (hnil : A = none → c = 0) (hu : Nums w w.heap.size A l)
    (hbytes : (n + m) * 8 ≤ 140737488355328) (hbase : base ≤ w.heap.size)
    (h : ∀ v' w', w'.ownsRow base 34 1 v' (n + m) (xs ++ nv l) → w.grownBy w' v.ownBlock → wpList Tryz.prog ops Q rest (a.put o.dst v') w') : wpList Tryz.prog ops Q (o :: rest) a w := by
  obtain ⟨i, hi, hz0, hz1, hz2⟩ := info_parts info_u64
  match A, hnil, hu, hx with
  | none, hnil, hu, hx =>
    have hl : l = [] := by
      by_cases hl : l = []
      · exact hl
      · obtain ⟨b, off, e, _⟩ := hu hl; cases e
    subst hl
    obtain rfl : m = 0 := hm.symm
    obtain rfl : c = 0 := hnil rfl
    exact wpList_append_own_none hgd s x 44 ho base 34 i 1 Tryz.underlying44 hi v n xs hs hown hx (h v w (by simpa [nv] using hown) (World.grownBy.refl w _))
  | some ad, hnil, hu, hx =>
    refine wpList_append_own w hgd s x 44 ho base 34 i (.int .u64 0) 1 8 Tryz.underlying44 hi hz0 hz1 hz2 rfl (by decide) v n xs hs hown ad m c (nv l) hx (by rw [nv_length, hm]; omega) ?_ ?_ (by unfold maxLen; omega) hbytes hbase (fun v' w' h1 h2 _ => h v' w' h1 h2)
    · intro j u hj
      have hjl : j < l.length := by
        rcases Nat.lt_or_ge j l.length with h | h
        · exact h
        · rw [List.getElem?_eq_none (by rw [nv_length]; exact h)] at hj; simp at hj
      obtain ⟨b, off, e, _, hc⟩ := hu (by intro e; rw [e] at hjl; simp at hjl)
      have e := Option.some.inj e
      subst e
      have hadd : (⟨b, off, none⟩ : Addr).add j = ⟨b, off + j, none⟩ := by unfold Addr.add; split <;> simp_all
      rw [hadd, hc j hjl, ← hj]
      simp [nv, List.getElem?_eq_getElem hjl]
    · intro u hu
      simp only [nv, List.mem_map] at hu
      obtain ⟨x, _, rfl⟩ := hu
      rfl
theorem wpList_append_one {w : World} {ops : Array Oper} {rest : List Oper} {o : Oper} {a : Act} {Q : Exit → Act → World → Prop} (hgd : o.guard = none) (s x : Operand)
    (ho : o.op = .call { callee := .builtin .append, args := #[s, x], argTypes := #[44, 44] }) (base : Nat)
    (v : Value) (n : Nat) (xs : List Value) (hs : a.eval s = v) (hown : w.ownsRow base 34 1 v n xs)
    (g : Nat) (y : Nat) (hx : a.eval x = .slice (some ⟨g, 0, none⟩) 1 1) (hc : w.cell? ⟨g, 0, none⟩ = some (.int .u64 (y : Int)))
    (hbytes : (n + 1) * 8 ≤ 140737488355328) (hbase : base ≤ w.heap.size)
    (h : ∀ v' w', w'.ownsRow base 34 1 v' (n + 1) (xs ++ [.int .u64 (y : Int)]) → w.grownBy w' v.ownBlock → wpList Tryz.prog ops Q rest (a.put o.dst v') w') : wpList Tryz.prog ops Q (o :: rest) a w := by
  obtain ⟨i, hi, hz0, hz1, hz2⟩ := info_parts info_u64
  refine wpList_append_own w hgd s x 44 ho base 34 i (.int .u64 0) 1 8 Tryz.underlying44 hi hz0 hz1 hz2 rfl (by decide) v n xs hs hown ⟨g, 0, none⟩ 1 1 [.int .u64 (y : Int)] hx rfl ?_ ?_ (by unfold maxLen; omega) hbytes hbase (fun v' w' h1 h2 _ => h v' w' h1 h2)
  · intro j u hj
    match j, hj with
    | 0, hj => simp at hj; subst hj; simpa [Addr.add] using hc
  · intro u hu; simp at hu; subst hu; rfl
end Go.Proofs.YtcachhnhncodoaaGreat
namespace Go.Proofs.YtcachhnhncodoaaGreat
open Go.RowKit
set_option linter.unusedVariables false
def bv (l : List UInt8) : List Value := l.map fun b => Value.int .u8 (b.toNat : Int)
theorem bv_length (l : List UInt8) : (bv l).length = l.length := by simp [bv]
theorem info_u8 : (Tryz.prog.info? 5).map (fun i => (i.zero, i.size, i.bytes)) = some (some (.int .u8 0), 1, 1) := by kernel_rfl
def Blk (w : World) (g : Nat) (l : List UInt8) : Prop := w.heap[g]? = some (.cells (bv l).toArray 5 (0, 0))
theorem Blk.cell {w : World} {g : Nat} {l : List UInt8} (h : Blk w g l) (i : Nat) (hi : i < l.length) : w.cell? ⟨g, i, none⟩ = some (.int .u8 (l[i].toNat : Int)) := by
  unfold Blk at h
  simp [World.cell?, h, bv, List.getElem?_eq_getElem hi]
theorem Blk.free {w : World} {g : Nat} {l : List UInt8} (h : Blk w g l) (i : Nat) : w.frozen? ⟨g, i, none⟩ = false := by
  unfold Blk at h
  simp [World.frozen?, h]
theorem Blk.lt {w : World} {g : Nat} {l : List UInt8} (h : Blk w g l) : g < w.heap.size := lt_of_block h
theorem Blk.put {w : World} {g : Nat} {l : List UInt8} (h : Blk w g l) (i : Nat) (x : UInt8) : Blk (w.setCell ⟨g, i, none⟩ (.int .u8 (x.toNat : Int))) g (l.set i x) := by
  unfold Blk at *
  simp [World.setCell, Array.getElem?_modify, h, bv, List.map_set]
theorem Blk.below {w w' : World} {g : Nat} {l : List UInt8} (h : Blk w g l) (hb : Below w.heap.size w w') : Blk w' g l := (hb.block g h.lt).trans h
theorem Blk.drew {w : World} {g : Nat} {l : List UInt8} (h : Blk w g l) : Blk w.drew g l := h
theorem Blk.text {w : World} {g cap : Nat} {l : List UInt8} (h : Blk w g l) :
    (convert 42 9 (.slice (some ⟨g, 0, none⟩) l.length cap)).run Tryz.prog w = .ok (.string (str l)) w := by
  rw [← str_of l]
  refine run_convert_bytes_arg _ 42 5 Tryz.underlying42 Tryz.underlying5 _ 0 l.length cap _ (by simp) ?_ 9 Tryz.underlying9
  intro i hi
  rw [Nat.zero_add, h.cell i hi]
  simp [List.getElem?_eq_getElem hi]
end Go.Proofs.YtcachhnhncodoaaGreat
namespace Go.Proofs.YtcachhnhncodoaaGreat.B
def leN : List UInt8 → Nat
  | [] => 0
  | c :: t => c.toNat + 256 * leN t
def le : Nat → Nat → List UInt8
  | 0, _ => []
  | k + 1, v => UInt8.ofNat v :: le k (v / 256)
def pk (w : Nat) : List Nat → Nat
  | [] => 0
  | x :: l => x + 2 ^ w * pk w l
def dg (w : Nat) : Nat → Nat → List Nat
  | 0, _ => []
  | n + 1, v => v % 2 ^ w :: dg w n (v / 2 ^ w)
def sz (m : Nat) : Nat := (m + 7) / 8
theorem two8 (q : Nat) : (256 : Nat) ^ q = 2 ^ (8 * q) := by rw [Nat.pow_mul]
theorem pos2 (n : Nat) : 0 < 2 ^ n := Nat.pow_pos (by omega)
theorem pos256 (n : Nat) : 0 < 256 ^ n := Nat.pow_pos (by omega)
theorem le_length (k v : Nat) : (le k v).length = k := by
  induction k generalizing v with
  | zero => rfl
  | succ k ih => simp [le, ih]
theorem le_get (k v j : Nat) (h : j < k) : (le k v)[j]? = some (UInt8.ofNat (v / 256 ^ j)) := by
  induction k generalizing v j with
  | zero => omega
  | succ k ih =>
    match j with
    | 0 => simp [le]
    | j + 1 =>
      simp only [le, List.getElem?_cons_succ]
      rw [ih (v / 256) j (by omega), Nat.div_div_eq_div_mul, Nat.pow_succ, Nat.mul_comm]
theorem leN_le (k v : Nat) : leN (le k v) = v % 256 ^ k := by
  induction k generalizing v with
  | zero => simp [le, leN, Nat.mod_one]
  | succ k ih =>
    simp only [le, leN, ih, UInt8.toNat_ofNat']
    show v % 256 + 256 * (v / 256 % 256 ^ k) = _
    rw [Nat.pow_succ, Nat.mul_comm (256 ^ k), Nat.mod_mul]
theorem leN_lt (l : List UInt8) : leN l < 256 ^ l.length := by
  induction l with
  | nil => simp [leN]
  | cons c t ih => have := c.toNat_lt; simp only [leN, List.length_cons, Nat.pow_succ]; omega
theorem le_leN (l : List UInt8) : le l.length (leN l) = l := by
  induction l with
  | nil => rfl
  | cons c t ih =>
    have := c.toNat_lt
    simp only [List.length_cons, le, leN]
    have h1 : (c.toNat + 256 * leN t) / 256 = leN t := by omega
    rw [h1, ih]
    congr 1
    apply UInt8.toNat_inj.mp
    rw [UInt8.toNat_ofNat']; omega
theorem leN_byte (l : List UInt8) (j : Nat) (h : j < l.length) : l[j].toNat = leN l / 256 ^ j % 256 := by
  have h1 : (le l.length (leN l))[j]? = some (UInt8.ofNat (leN l / 256 ^ j)) := le_get _ _ _ h
  rw [le_leN, List.getElem?_eq_getElem h] at h1
  rw [Option.some.inj h1, UInt8.toNat_ofNat']
theorem leN_bit (l : List UInt8) (b : Nat) (h : b / 8 < l.length) : l[b / 8].toNat / 2 ^ (b % 8) % 2 = leN l / 2 ^ b % 2 := by
  rw [leN_byte l (b / 8) h]
  have e : 2 ^ b = 256 ^ (b / 8) * 2 ^ (b % 8) := by
    rw [two8, ← Nat.pow_add]; congr 1; omega
  rw [e, ← Nat.div_div_eq_div_mul]
  generalize leN l / 256 ^ (b / 8) = x
  have : b % 8 = 0 ∨ b % 8 = 1 ∨ b % 8 = 2 ∨ b % 8 = 3 ∨ b % 8 = 4 ∨ b % 8 = 5 ∨ b % 8 = 6 ∨ b % 8 = 7 := by omega
  rcases this with h | h | h | h | h | h | h | h <;> rw [h] <;> simp only [Nat.reducePow] <;> omega
theorem le_put (K V b t : Nat) (hV : V < 2 ^ b) (ht : t < 2) (hb : b / 8 < K) :
    (le K V).set (b / 8) (UInt8.ofNat (V / 256 ^ (b / 8) % 256 + t * 2 ^ (b % 8))) = le K (V + t * 2 ^ b) := by
  have e : 2 ^ b = 256 ^ (b / 8) * 2 ^ (b % 8) := by
    rw [two8, ← Nat.pow_add]; congr 1; omega
  have hr : 2 ^ (b % 8) ≤ 128 := by
    have : 2 ^ (b % 8) ≤ 2 ^ 7 := Nat.pow_le_pow_right (by omega) (by omega)
    omega
  generalize hq : b / 8 = q at *
  generalize 2 ^ (b % 8) = R at *
  apply List.ext_getElem?
  intro j
  by_cases hj : j < K
  · rw [le_get K _ j hj, List.getElem?_set]
    have hp := pos256 q
    by_cases hqj : q = j
    · subst hqj
      rw [if_pos rfl, if_pos (by rw [le_length]; exact hb)]
      congr 1
      apply UInt8.toNat_inj.mp
      have : (V + t * 2 ^ b) / 256 ^ q = V / 256 ^ q + t * R := by
        rw [e, Nat.mul_left_comm, Nat.add_mul_div_left _ _ hp]
      rw [this]
      simp only [UInt8.toNat_ofNat']
      omega
    · rw [if_neg hqj, le_get K _ j hj]
      congr 1
      apply UInt8.toNat_inj.mp
      simp only [UInt8.toNat_ofNat']
      show V / 256 ^ j % 256 = (V + t * 2 ^ b) / 256 ^ j % 256
      rcases Nat.lt_or_ge j q with h | h
      · have e2 : t * 2 ^ b = 256 ^ j * (256 * (256 ^ (q - j - 1) * R * t)) := by
          rw [e]
          have : 256 ^ q = 256 ^ j * (256 * 256 ^ (q - j - 1)) := by
            rw [Nat.mul_comm 256, ← Nat.pow_succ, ← Nat.pow_add]; congr 1; omega
          rw [this]; simp only [Nat.mul_comm, Nat.mul_left_comm]
        rw [e2, Nat.add_mul_div_left _ _ (pos256 j), Nat.add_mul_mod_self_left]
      · have h1 : 256 ^ (q + 1) ≤ 256 ^ j := Nat.pow_le_pow_right (by omega) (by omega)
        rw [Nat.pow_succ] at h1
        have h2 : t * 2 ^ b ≤ 2 ^ b := by
          have : t * 2 ^ b ≤ 1 * 2 ^ b := Nat.mul_le_mul_right _ (by omega)
          omega
        have h3 : 2 ^ b ≤ 256 ^ q * 128 := by rw [e]; exact Nat.mul_le_mul_left _ hr
        rw [Nat.div_eq_of_lt (by omega), Nat.div_eq_of_lt (by omega)]
  · rw [List.getElem?_eq_none (by rw [List.length_set, le_length]; omega), List.getElem?_eq_none (by rw [le_length]; omega)]
theorem le_zero (k : Nat) : le k 0 = List.replicate k 0 := by
  induction k with
  | zero => rfl
  | succ k ih => simp [le, ih, List.replicate_succ]
theorem pk_lt (w : Nat) (l : List Nat) (h : ∀ x ∈ l, x < 2 ^ w) : pk w l < 2 ^ (w * l.length) := by
  induction l with
  | nil => simp [pk]
  | cons x l ih =>
    have h1 := ih (fun y hy => h y (by simp [hy]))
    have h2 := h x (by simp)
    simp only [pk, List.length_cons]
    rw [Nat.mul_add, Nat.mul_one, Nat.pow_add, Nat.mul_comm (2 ^ (w * l.length))]
    have h3 : 2 ^ w * (pk w l + 1) ≤ 2 ^ w * 2 ^ (w * l.length) := Nat.mul_le_mul_left _ h1
    rw [Nat.mul_add, Nat.mul_one] at h3
    omega
theorem pk_append (w : Nat) (a b : List Nat) : pk w (a ++ b) = pk w a + 2 ^ (w * a.length) * pk w b := by
  induction a with
  | nil => simp [pk]
  | cons x a ih =>
    simp only [List.cons_append, pk, ih, List.length_cons]
    rw [Nat.mul_add (w), Nat.mul_one, Nat.pow_add, Nat.mul_add (2 ^ w), Nat.mul_comm (2 ^ (w * a.length)) (2 ^ w), Nat.mul_assoc, Nat.add_assoc]
theorem dg_length (w n v : Nat) : (dg w n v).length = n := by
  induction n generalizing v with
  | zero => rfl
  | succ n ih => simp [dg, ih]
theorem dg_pk (w : Nat) (l : List Nat) (h : ∀ x ∈ l, x < 2 ^ w) : dg w l.length (pk w l) = l := by
  induction l with
  | nil => rfl
  | cons x l ih =>
    have h2 := h x (by simp)
    have hp := pos2 w
    simp only [List.length_cons, dg, pk]
    rw [Nat.add_mul_mod_self_left, Nat.mod_eq_of_lt h2, Nat.add_mul_div_left _ _ hp, Nat.div_eq_of_lt h2, Nat.zero_add, ih (fun y hy => h y (by simp [hy]))]
theorem pk_dg (w n v : Nat) : pk w (dg w n v) = v % 2 ^ (w * n) := by
  induction n generalizing v with
  | zero => simp [dg, pk, Nat.mod_one]
  | succ n ih =>
    simp only [dg, pk, ih]
    rw [Nat.mul_add, Nat.mul_one, Nat.pow_add, Nat.mul_comm (2 ^ (w * n)), Nat.mod_mul]
theorem dg_lt (w n v : Nat) : ∀ x ∈ dg w n v, x < 2 ^ w := by
  induction n generalizing v with
  | zero => simp [dg]
  | succ n ih =>
    intro x hx
    rcases List.mem_cons.1 hx with rfl | hx
    · exact Nat.mod_lt _ (pos2 w)
    · exact ih _ x hx
theorem dg_snoc (w n v : Nat) : dg w (n + 1) v = dg w n v ++ [v / 2 ^ (w * n) % 2 ^ w] := by
  induction n generalizing v with
  | zero => simp [dg]
  | succ n ih =>
    rw [dg, ih]
    conv => rhs; rw [dg]
    rw [List.cons_append, Nat.div_div_eq_div_mul, ← Nat.pow_add, Nat.mul_add, Nat.mul_one, Nat.add_comm w]
theorem dg_get (w n v i : Nat) (h : i < n) : (dg w n v).getD i 0 = v / 2 ^ (w * i) % 2 ^ w := by
  induction n generalizing v i with
  | zero => omega
  | succ n ih =>
    match i with
    | 0 => simp [dg]
    | i + 1 =>
      simp only [dg, List.getD_cons_succ]
      rw [ih (v / 2 ^ w) i (by omega), Nat.div_div_eq_div_mul, ← Nat.pow_add, Nat.mul_add, Nat.mul_one, Nat.add_comm w]
theorem pk_bit (w : Nat) (l : List Nat) (h : ∀ x ∈ l, x < 2 ^ w) (b : Nat) (hw : 0 < w) (hb : b < l.length * w) :
    pk w l / 2 ^ b % 2 = l.getD (b / w) 0 / 2 ^ (b % w) % 2 := by
  have hi : b / w < l.length := by rw [Nat.div_lt_iff_lt_mul hw]; exact hb
  have h1 := dg_get w l.length (pk w l) (b / w) hi
  rw [dg_pk w l h] at h1
  rw [h1]
  have hd : b = w * (b / w) + b % w := (Nat.div_add_mod b w).symm
  have hm : b % w < w := Nat.mod_lt _ hw
  conv => lhs; rw [hd, Nat.pow_add, ← Nat.div_div_eq_div_mul]
  generalize pk w l / 2 ^ (w * (b / w)) = x
  generalize b % w = r at *
  have e : 2 ^ w = 2 ^ r * (2 * 2 ^ (w - r - 1)) := by
    rw [Nat.mul_comm 2, ← Nat.pow_succ, ← Nat.pow_add]; congr 1; omega
  rw [e, Nat.mod_mul_right_div_self, Nat.mod_mul_right_mod]
def bl (x : Nat) : Nat := if x = 0 then 0 else x.log2 + 1
theorem bl_le (x k : Nat) : bl x ≤ k ↔ x < 2 ^ k := by
  unfold bl
  split
  · subst_vars; simp [pos2 k]
  · rename_i h
    rw [← Nat.log2_lt h]; omega
theorem bl_or (a b : Nat) : bl (a ||| b) = max (bl a) (bl b) := by
  apply Nat.le_antisymm
  · rw [bl_le]
    apply Nat.or_lt_two_pow
    · exact (bl_le a _).1 (by omega)
    · exact (bl_le b _).1 (by omega)
  · have h : (a ||| b) < 2 ^ bl (a ||| b) := (bl_le _ _).1 (Nat.le_refl _)
    have h1 : a ≤ a ||| b := Nat.left_le_or
    have h2 : b ≤ a ||| b := Nat.right_le_or
    have h3 := (bl_le a (bl (a ||| b))).2 (by omega)
    have h4 := (bl_le b (bl (a ||| b))).2 (by omega)
    omega
def wd : List Nat → Nat
  | [] => 0
  | x :: l => max (bl x) (wd l)
theorem wd_le (l : List Nat) (k : Nat) : wd l ≤ k ↔ ∀ x ∈ l, x < 2 ^ k := by
  induction l with
  | nil => simp [wd]
  | cons x l ih =>
    simp only [wd, List.mem_cons, forall_eq_or_imp]
    rw [← ih, ← bl_le]; omega
theorem wd_snoc (l : List Nat) (x : Nat) : wd (l ++ [x]) = max (wd l) (bl x) := by
  induction l with
  | nil => simp [wd]
  | cons y l ih => simp only [List.cons_append, wd, ih]; omega
theorem wd_64 (l : List Nat) (h : ∀ x ∈ l, x < 18446744073709551616) : wd l ≤ 64 := (wd_le l 64).2 h
def ors : List Nat → Nat
  | [] => 0
  | x :: l => x ||| ors l
theorem bl_ors (l : List Nat) : bl (ors l) = wd l := by
  induction l with
  | nil => rfl
  | cons x l ih => simp only [ors, wd, bl_or, ih]
theorem ors_snoc (l : List Nat) (x : Nat) : ors (l ++ [x]) = ors l ||| x := by
  induction l with
  | nil => simp [ors]
  | cons y l ih => simp only [List.cons_append, ors, ih, Nat.or_assoc]
theorem ors_lt (l : List Nat) (h : ∀ x ∈ l, x < 18446744073709551616) : ors l < 18446744073709551616 := by
  induction l with
  | nil => simp [ors]
  | cons x l ih =>
    have h1 := ih (fun y hy => h y (by simp [hy]))
    have h2 := h x (by simp)
    simp only [ors]
    exact Nat.or_lt_two_pow (n := 64) h2 h1
theorem bitLen_bl (x : Nat) (h : x < 18446744073709551616) : Go.Lib.bitLen x = bl x := by
  have aux : ∀ f x, x < 2 ^ f → Go.Lib.bitLenAux f x = bl x := by
    intro f
    induction f with
    | zero => intro x hx; simp at hx; subst hx; rfl
    | succ f ih =>
      intro x hx
      unfold Go.Lib.bitLenAux
      by_cases h0 : x = 0
      · subst h0; rfl
      · rw [if_neg h0, ih (x / 2) (by rw [Nat.pow_succ] at hx; omega)]
        apply Nat.le_antisymm
        · have h1 : x < 2 ^ bl x := (bl_le _ _).1 (Nat.le_refl _)
          have hp : 0 < bl x := by unfold bl; rw [if_neg h0]; omega
          obtain ⟨k, hk⟩ : ∃ k, bl x = k + 1 := ⟨bl x - 1, by omega⟩
          rw [hk] at h1 ⊢
          rw [Nat.pow_succ] at h1
          have : bl (x / 2) ≤ k := (bl_le _ _).2 (by omega)
          omega
        · rw [bl_le, Nat.add_comm, Nat.pow_succ]
          have : x / 2 < 2 ^ bl (x / 2) := (bl_le _ _).1 (Nat.le_refl _)
          omega
  exact aux 64 x h
end Go.Proofs.YtcachhnhncodoaaGreat.B
namespace Go.Proofs
open Go.Shelf
def Tryz.lays129_ren : Go.Shelf.Ren := ⟨fun | 129 => 106 | n => n, fun | 53 => 34 | 3 => 3 | 4 => 4 | 46 => 109 | 5 => 5 | 9 => 9 | n => n, fun | n => n⟩
theorem Tryz.lays129 : Go.Proofs.Lays.n129 Tryz.prog Tryz.lays129_ren := {
  mixed := by kernel_rfl
  f129 := Tryz.func106.trans (congrArg some (by kernel_rfl))
  t3 := Tryz.underlying3
  a3 := Tryz.isAgg3
  z3 := Tryz.sizeOf3
  v3 := Tryz.zeroValue3
  t4 := Tryz.underlying4
  a4 := Tryz.isAgg4
  z4 := Tryz.sizeOf4
  v4 := Tryz.zeroValue4
  t5 := Tryz.underlying5
  a5 := Tryz.isAgg5
  z5 := Tryz.sizeOf5
  v5 := Tryz.zeroValue5
  t9 := Tryz.underlying9
  a9 := Tryz.isAgg9
  z9 := Tryz.sizeOf9
  v9 := Tryz.zeroValue9
  t46 := Tryz.underlying109
  a46 := Tryz.isAgg109
  z46 := Tryz.sizeOf109
  v46 := Tryz.zeroValue109
  t53 := Tryz.underlying34
  a53 := Tryz.isAgg34
  z53 := Tryz.sizeOf34
  v53 := Tryz.zeroValue34 }
theorem Tryz.bits_Len64 (x : Int) (w : World) (h0 : 0 ≤ x) (h1 : x ≤ 18446744073709551615) :
    Calls Tryz.prog 106 #[.int .u64 x] w fun e w' => e = .returned (.int .i64 (Lib.bitLen x.toNat)) ∧ w' = w := Any.bits_Len64 Tryz.lays129 x w h0 h1
end Go.Proofs
namespace Go.Proofs.YtcachhnhncodoaaGreat
open Go.RowKit
set_option linter.unusedVariables false
set_option maxHeartbeats 400000 in
theorem bsize_any (m : Nat) (w : World) (hm : m ≤ 1048576) :
    Calls Tryz.prog 73 #[.int .i64 m] w fun e w' => e = .returned (.int .i64 (B.sz m)) ∧ w = w' := by
  go_enter Tryz.func73, Tryz.ntmps73
  go_wp2_with fail
  go_ret
  refine ⟨?_, rfl⟩
  show Ending.returned (Value.int .i64 _) = _
  congr 2
theorem bit_or (n i t : Nat) (hn : n < 2 ^ i) (hi : i < 64) (ht : t < 2) : bits .or .u64 (n : Int) ((t * 2 ^ i : Nat) : Int) = ((n + t * 2 ^ i : Nat) : Int) := by
  have hp : 2 ^ (i + 1) ≤ 2 ^ 64 := Nat.pow_le_pow_right (by omega) (by omega)
  rw [Nat.pow_succ] at hp
  have h2 : t * 2 ^ i ≤ 2 ^ i := by
    have : t * 2 ^ i ≤ 1 * 2 ^ i := Nat.mul_le_mul_right _ (by omega)
    omega
  rw [bits_or_u64_nat _ _ (by omega) (by omega), Nat.or_comm, Nat.mul_comm, ← Nat.two_pow_add_eq_or_of_lt hn, Nat.add_comm]
theorem mod_snoc (X i : Nat) : X % 2 ^ (i + 1) = X % 2 ^ i + X / 2 ^ i % 2 * 2 ^ i := by
  rw [Nat.pow_succ, Nat.mod_mul, Nat.mul_comm (2 ^ i)]
theorem and1 (x : Nat) (hx : x < 256) : bits .and .u8 (x : Int) 1 = ((x % 2 : Nat) : Int) := by
  have h := u8_and_nat x 1 hx (by omega)
  rw [Nat.and_one_is_mod] at h
  exact h
theorem shift_in (t j : Nat) (ht : t < 2) (hj : j < 64) : IntKind.u64.wrap (IntKind.u64.wrap (t : Int) * 2 ^ j) = ((t * 2 ^ j : Nat) : Int) := by
  have hp : 2 ^ (j + 1) ≤ 2 ^ 64 := Nat.pow_le_pow_right (by omega) (by omega)
  rw [Nat.pow_succ] at hp
  have h2 : t * 2 ^ j ≤ 2 ^ j := by
    have : t * 2 ^ j ≤ 1 * 2 ^ j := Nat.mul_le_mul_right _ (by omega)
    omega
  have e : IntKind.u64.wrap (t : Int) = (t : Int) := by rw [IntKind.wrap_u64]; omega
  have e2 : ((t : Int) * 2 ^ j) = ((t * 2 ^ j : Nat) : Int) := by simp
  rw [e, e2, IntKind.wrap_u64]
  omega
theorem take_step (n j c r t : Nat) (hn : n < 2 ^ j) (hj : j < 64) (hc : c < 256) (ht : c / 2 ^ r % 2 = t) :
    bits .or .u64 (n : Int) (IntKind.u64.wrap (IntKind.u64.wrap (bits .and .u8 ((c : Int) / 2 ^ r) 1) * 2 ^ j)) = ((n + t * 2 ^ j : Nat) : Int) := by
  have e : ((c : Int) / 2 ^ r) = ((c / 2 ^ r : Nat) : Int) := by simp
  have hcr : c / 2 ^ r < 256 := Nat.lt_of_le_of_lt (Nat.div_le_self _ _) hc
  rw [e, and1 _ hcr, ht, shift_in t j (by omega) hj, bit_or n j t hn hj (by omega)]
theorem text_bit (s : ByteArray) (f j : Nat) (h : (f + j) / 8 < s.size) : s[(f + j) / 8].toNat / 2 ^ ((f + j) % 8) % 2 = B.leN s.data.toList / 2 ^ f / 2 ^ j % 2 := by
  have := B.leN_bit s.data.toList (f + j) (by rw [len_data]; exact h)
  rw [Nat.div_div_eq_div_mul, ← Nat.pow_add, ← this]
  rfl
set_option maxHeartbeats 400000 in
theorem take_any (s : ByteArray) (f wd : Nat) (w : World) (hw : wd ≤ 64) (hs : f + wd ≤ 8 * s.size) (hf : f ≤ 1048576) (hz : s.size ≤ maxLen) :
    Calls Tryz.prog 173 #[.string s, .int .i64 f, .int .i64 wd] w fun e w' => e = .returned (.int .u64 ((B.leN s.data.toList / 2 ^ f % 2 ^ wd : Nat) : Int)) ∧ w = w' := by
  unfold maxLen at hz
  generalize hX : B.leN s.data.toList / 2 ^ f = X
  have HX := Lib.hid hX
  clear hX
  go_enter Tryz.func173, Tryz.ntmps173
  go_wp2_with fail
  go_loop [7, 8, 9, 11] (fun n _ _ i => ∃ j : Nat, j ≤ wd ∧ i = .int .i64 j ∧ n = .int .u64 ((X % 2 ^ j : Nat) : Int)) (fun _ _ _ i => wd - (intOf i).toNat)
  case atStart => exact ⟨0, by omega, rfl, by simp [Nat.mod_one]⟩
  case round =>
    obtain ⟨j, hj, rfl, rfl⟩ := hrel
    by_cases hlt : j < wd
    · have hM := Lib.hid (mod_snoc X j)
      have hn : X % 2 ^ j < 2 ^ j := Nat.mod_lt _ (B.pos2 j)
      have hq : (f + j) / 8 < s.size := by omega
      have HB := Lib.hid (text_bit s f j hq)
      generalize X % 2 ^ j = n at *
      go_wp2_with fail
      refine ⟨⟨j + 1, by omega, by go_num, ?_⟩, by simp [intOf]; omega⟩
      rw [take_step n j _ _ _ hn (by omega) s[(f + j) / 8].toNat_lt HB.out, HX.out, hM.out]
    · obtain rfl : j = wd := by omega
      go_wp2_with fail
      go_ret
      exact ⟨rfl, rfl⟩
theorem len64_any (n : Nat) (w : World) (hn : n < 18446744073709551616) :
    Calls Tryz.prog 106 #[.int .u64 n] w fun e w' => e = .returned (.int .i64 (B.bl n)) ∧ w = w' := by
  refine (Tryz.bits_Len64 _ w (by omega) (by omega)).mono ?_
  rintro e w' ⟨rfl, rfl⟩
  rw [Int.toNat_natCast, B.bitLen_bl n hn]
  exact ⟨rfl, rfl⟩
theorem ors_step (l : List Nat) (k : Nat) (hk : k < l.length) (hx : ∀ x ∈ l, x < 18446744073709551616) :
    bits .or .u64 ((B.ors (l.take k) : Nat) : Int) ((l.getD k 0 : Nat) : Int) = ((B.ors (l.take (k + 1)) : Nat) : Int) := by
  rw [bits_or_u64_nat _ _ (B.ors_lt _ (fun x h => hx x (List.mem_of_mem_take h))) (hx _ (getD_mem l k hk))]
  rw [List.take_succ_eq_append_getElem hk, B.ors_snoc]
  simp [List.getD, List.getElem?_eq_getElem hk]
set_option maxHeartbeats 400000 in
theorem width_some (b off c : Nat) (l : List Nat) (w : World) (hl : l.length ≤ maxLen) (hx : ∀ x ∈ l, x < 18446744073709551616)
    (h1 : ∀ i, i < l.length → w.cell? ⟨b, off + i, none⟩ = some (.int .u64 ((l.getD i 0 : Nat) : Int))) :
    Calls Tryz.prog 72 #[.slice (some ⟨b, off, none⟩) l.length c] w fun e w' => e = .returned (.int .i64 (B.wd l)) ∧ w = w' := by
  unfold maxLen at hl
  have H1 := Lib.hid h1
  have HX := Lib.hid hx
  clear h1 hx
  go_enter Tryz.func72, Tryz.ntmps72
  go_wp2_with fail
  go_loop [3, 5, 8] (fun v _ i => ∃ k : Nat, k ≤ l.length ∧ i = .int .i64 k ∧ v = .int .u64 ((B.ors (l.take k) : Nat) : Int)) (fun _ _ i => l.length - (intOf i).toNat)
  case atStart => exact ⟨0, by omega, rfl, rfl⟩
  case round =>
    obtain ⟨k, hk, rfl, rfl⟩ := hrel
    by_cases hlt : k < l.length
    · have hcell := H1.out k hlt
      have HO := Lib.hid (ors_step l k hlt HX.out)
      generalize l.getD k 0 = x at *
      generalize B.ors (l.take k) = o at *
      go_wp2_with fail
      exact ⟨⟨k + 1, by omega, by go_num, by rw [HO.out]⟩, by simp [intOf]; omega⟩
    · obtain rfl : k = l.length := by omega
      have ho := B.ors_lt l HX.out
      have HW := Lib.hid (B.bl_ors l)
      rw [List.take_length]
      generalize B.ors l = o at *
      go_wp2_with fail
      refine (len64_any o _ ho).mono ?_
      rintro e w' ⟨rfl, rfl⟩
      go_wp2_with fail
      go_ret
      exact ⟨by rw [← HW.out]; rfl, rfl⟩
set_option maxHeartbeats 400000 in
theorem width_nil (a : Option Addr) (c : Nat) (w : World) :
    Calls Tryz.prog 72 #[.slice a 0 c] w fun e w' => e = .returned (.int .i64 0) ∧ w = w' := by
  go_enter Tryz.func72, Tryz.ntmps72
  go_wp2_with fail
  refine wp_loop_rounds 1 ?_
  rw [rounds_succ]
  go_wp2_with fail
  refine (len64_any 0 _ (by omega)).mono ?_
  rintro e w' ⟨rfl, rfl⟩
  go_wp2_with fail
  go_ret
  exact ⟨rfl, rfl⟩
theorem width_any (a : Option Addr) (c : Nat) (l : List Nat) (w : World) (B' : Nat) (hl : l.length ≤ maxLen) (hx : ∀ x ∈ l, x < 18446744073709551616) (hu : Nums w B' a l) :
    Calls Tryz.prog 72 #[.slice a l.length c] w fun e w' => e = .returned (.int .i64 (B.wd l)) ∧ w = w' := by
  by_cases hn : l = []
  · subst hn; exact width_nil a c w
  · obtain ⟨b, off, rfl, hb, hc⟩ := hu hn
    exact width_some b off c l w hl hx hc
end Go.Proofs.YtcachhnhncodoaaGreat
namespace Go.Proofs.YtcachhnhncodoaaGreat
open Go.RowKit
set_option linter.unusedVariables false
def PutPost (g : Nat) (l : List UInt8) (w : World) (e : Ending) (w' : World) : Prop := e = .returned (.tuple #[]) ∧ Blk w' g l ∧ Below g w w'
theorem small_lt (V b : Nat) (hV : V < 2 ^ b) : V / 256 ^ (b / 8) % 256 < 2 ^ (b % 8) := by
  have e : 2 ^ b = 256 ^ (b / 8) * 2 ^ (b % 8) := by
    rw [B.two8, ← Nat.pow_add]; congr 1; omega
  rw [e] at hV
  have := (Nat.div_lt_iff_lt_mul (B.pos256 (b / 8))).2 (by rw [Nat.mul_comm]; exact hV)
  exact Nat.lt_of_le_of_lt (Nat.mod_le _ _) this
theorem put_step (x n j r : Nat) (hx : x < 2 ^ r) (hr : r < 8) (hn : n < 18446744073709551616) :
    bits .or .u8 (x : Int) (bits .and .u64 ((n : Int) / 2 ^ j) 1 % 256 * 2 ^ r % 256) = ((x + n / 2 ^ j % 2 * 2 ^ r : Nat) : Int) := by
  have e : ((n : Int) / 2 ^ j) = ((n / 2 ^ j : Nat) : Int) := by simp
  have hnj : n / 2 ^ j < 18446744073709551616 := Nat.lt_of_le_of_lt (Nat.div_le_self _ _) hn
  have h1 : bits .and .u64 ((n / 2 ^ j : Nat) : Int) 1 = ((n / 2 ^ j % 2 : Nat) : Int) := by
    have h := bits_and_u64_nat (n / 2 ^ j) 1 hnj (by omega)
    rw [Nat.and_one_is_mod] at h; exact h
  rw [e, h1]
  generalize ht : n / 2 ^ j % 2 = t
  have ht2 : t < 2 := by omega
  have hp : 2 ^ r ≤ 128 := by
    have : 2 ^ r ≤ 2 ^ 7 := Nat.pow_le_pow_right (by omega) (by omega)
    omega
  have h2 : t * 2 ^ r ≤ 2 ^ r := by
    have : t * 2 ^ r ≤ 1 * 2 ^ r := Nat.mul_le_mul_right _ (by omega)
    omega
  have e2 : ((t : Int) % 256 * 2 ^ r % 256) = ((t * 2 ^ r : Nat) : Int) := by
    have e3 : ((t : Int) % 256) = (t : Int) := by omega
    have e4 : ((t : Int) * 2 ^ r) = ((t * 2 ^ r : Nat) : Int) := by simp
    rw [e3, e4]; omega
  rw [e2, u8_or_nat _ _ (by omega) (by omega), Nat.or_comm, Nat.mul_comm, ← Nat.two_pow_add_eq_or_of_lt hx, Nat.add_comm]
theorem put_byte (K V b t : Nat) (hV : V < 2 ^ b) (ht : t < 2) (hb : b / 8 < K) (x : Nat) (hx : ((B.le K V)[b / 8]'(by rw [B.le_length]; exact hb)).toNat = x) :
    x < 2 ^ (b % 8) ∧ (UInt8.ofNat (x + t * 2 ^ (b % 8))).toNat = x + t * 2 ^ (b % 8) ∧ (B.le K V).set (b / 8) (UInt8.ofNat (x + t * 2 ^ (b % 8))) = B.le K (V + t * 2 ^ b) := by
  have h1 := B.le_get K V (b / 8) hb
  rw [List.getElem?_eq_getElem (by rw [B.le_length]; exact hb)] at h1
  rw [Option.some.inj h1, UInt8.toNat_ofNat'] at hx
  have h2 := small_lt V b hV
  have hx' : V / 256 ^ (b / 8) % 256 = x := hx
  rw [hx'] at h2
  have hp : 2 ^ (b % 8) ≤ 128 := by
    have : 2 ^ (b % 8) ≤ 2 ^ 7 := Nat.pow_le_pow_right (by omega) (by omega)
    omega
  have h3 : t * 2 ^ (b % 8) ≤ 2 ^ (b % 8) := by
    have : t * 2 ^ (b % 8) ≤ 1 * 2 ^ (b % 8) := Nat.mul_le_mul_right _ (by omega)
    omega
  refine ⟨h2, ?_, ?_⟩
  · rw [UInt8.toNat_ofNat']; omega
  · have := B.le_put K V b t hV ht hb
    rw [hx'] at this; exact this
theorem put_val (V n f j : Nat) : V + n % 2 ^ j * 2 ^ f + n / 2 ^ j % 2 * 2 ^ (f + j) = V + n % 2 ^ (j + 1) * 2 ^ f := by
  rw [mod_snoc, Nat.add_mul, Nat.pow_add, Nat.mul_assoc, Nat.mul_comm (2 ^ f)]; omega
theorem put_bd (V n f j : Nat) (hV : V < 2 ^ f) : V + n % 2 ^ j * 2 ^ f < 2 ^ (f + j) := by
  have h : n % 2 ^ j + 1 ≤ 2 ^ j := Nat.mod_lt _ (B.pos2 j)
  have h2 : (n % 2 ^ j + 1) * 2 ^ f ≤ 2 ^ j * 2 ^ f := Nat.mul_le_mul_right _ h
  rw [Nat.add_mul, Nat.one_mul] at h2
  rw [Nat.pow_add, Nat.mul_comm (2 ^ f)]
  omega
set_option maxHeartbeats 1000000 in
theorem put_any (g K cap f wd n V : Nat) (w : World) (hw : wd ≤ 64) (hK : f + wd ≤ 8 * K) (hK2 : K ≤ 4096) (hV : V < 2 ^ f) (hn : n < 2 ^ wd) (hb : Blk w g (B.le K V)) :
    Calls Tryz.prog 74 #[.slice (some ⟨g, 0, none⟩) K cap, .int .i64 f, .int .i64 wd, .int .u64 n] w (PutPost g (B.le K (V + n * 2 ^ f)) w) := by
  go_enter Tryz.func74, Tryz.ntmps74
  go_wp2_with fail
  go_loopw [8, 9, 11] (fun _ _ i wr => ∃ j : Nat, j ≤ wd ∧ i = .int .i64 j ∧ Blk wr g (B.le K (V + n % 2 ^ j * 2 ^ f)) ∧ Below g w wr) (fun _ _ i _ => wd - (intOf i).toNat)
  case atStart => exact ⟨0, by omega, rfl, by simpa [Nat.mod_one] using hb, Below.refl _ _⟩
  case round =>
    obtain ⟨j, hj, rfl, hblk, hbw⟩ := hrel
    by_cases hlt : j < wd
    · have hq : (f + j) / 8 < K := by omega
      have hcell := hblk.cell ((f + j) / 8) (by rw [B.le_length]; exact hq)
      have hfree := hblk.free ((f + j) / 8)
      have HBLK := Lib.hid hblk
      generalize hx : ((B.le K (V + n % 2 ^ j * 2 ^ f))[(f + j) / 8]'(by rw [B.le_length]; exact hq)).toNat = x at hcell
      obtain ⟨hx1, hx2, hx3⟩ := put_byte K (V + n % 2 ^ j * 2 ^ f) (f + j) (n / 2 ^ j % 2) (put_bd V n f j hV) (by omega) hq x hx
      have HS := Lib.hid (put_step x n j ((f + j) % 8) hx1 (by omega) (Nat.lt_of_lt_of_le hn (Nat.le_trans (Nat.pow_le_pow_right (by omega) hw) (by omega : 2 ^ 64 ≤ 18446744073709551616))))
      have H2 := Lib.hid hx2
      have H3 := Lib.hid hx3
      clear hx hblk hx1 hx2 hx3
      go_wp2_with fail
      go_region
      go_wp2_with fail
      refine ⟨⟨j + 1, by omega, by go_num, ?_, (hbw.setCell (Nat.le_refl g) _).drew⟩, by simp [intOf]; omega⟩
      rw [HS.out, ← H2.out]
      have h4 := HBLK.out.put ((f + j) / 8) (UInt8.ofNat (x + n / 2 ^ j % 2 * 2 ^ ((f + j) % 8)))
      rw [H3.out, put_val] at h4
      exact h4.drew
    · obtain rfl : j = wd := by omega
      have HN := Lib.hid (Nat.mod_eq_of_lt hn)
      go_wp2_with fail
      go_end0
      exact ⟨rfl, by rw [HN.out] at hblk; exact hblk, hbw⟩
end Go.Proofs.YtcachhnhncodoaaGreat
namespace Go.Proofs.YtcachhnhncodoaaGreat
open Go.RowKit
set_option linter.unusedVariables false
def packR (l : List Nat) (wide : Int) : List UInt8 × Nat :=
  if wide < 0 ∨ 64 < wide then ([], 3) else if 64 < l.length then ([], 2) else if wide.toNat < B.wd l then ([], 8)
  else (B.le (B.sz (l.length * wide.toNat)) (B.pk wide.toNat l), 0)
def PackPost (r : List UInt8 × Nat) (w : World) (e : Ending) (w' : World) : Prop :=
  e = .returned (.tuple #[.string (str r.1), .int .i64 r.2]) ∧ Below w.heap.size w w'
theorem made_blk {w' : World} {g n B' : Nat} (h : w'.ownsRow B' 5 1 (.slice (some ⟨g, 0, none⟩) n n) n (madeCells (Value.int .u8 0).cells (n * 1)).toList) : Blk w' g (B.le n 0) := by
  rcases h.2 with ⟨he, _⟩ | ⟨g', cap, cur, he, _, hh, _, _, hs, ht⟩
  · cases he
  · injection he with h1 h2 h3
    injection h1 with h1
    injection h1 with h1
    subst h1 h3
    unfold Blk
    rw [hh]
    have e : cur = (bv (B.le n 0)).toArray := by
      apply Array.toList_inj.mp
      rw [List.take_of_length_le (by rw [Array.length_toList, hs]; omega)] at ht
      rw [ht, B.le_zero]
      apply List.ext_getElem
      · simp [madeCells, bv]
      · intro i h1 h2
        simp [madeCells, bv, Value.cells, Nat.mod_one]
    rw [e]
set_option maxHeartbeats 400000 in
theorem pack_range (a : Option Addr) (c n : Nat) (wide : Int) (w : World) (h : wide < 0 ∨ 64 < wide) :
    Calls Tryz.prog 43 #[.slice a n c, .int .i64 wide] w (PackPost ([], 3) w) := by
  by_cases h0 : wide < 0
  · have g1 : decide (wide < 0) = true := by simp; omega
    go_enter Tryz.func43, Tryz.ntmps43
    go_wp2_with fail
    go_ret2
    exact ⟨rfl, Below.refl _ _⟩
  · have g1 : decide (wide < 0) = false := by simp; omega
    have g2 : decide (64 < wide) = true := by simp; omega
    go_enter Tryz.func43, Tryz.ntmps43
    go_wp2_with fail
    go_ret2
    exact ⟨rfl, Below.refl _ _⟩
set_option maxHeartbeats 400000 in
theorem pack_many (a : Option Addr) (c n : Nat) (wide : Nat) (w : World) (h : wide ≤ 64) (hn : 64 < n) :
    Calls Tryz.prog 43 #[.slice a n c, .int .i64 wide] w (PackPost ([], 2) w) := by
  have g1 : decide ((wide : Int) < 0) = false := by simp
  have g2 : decide ((64 : Int) < (wide : Int)) = false := by simp; omega
  go_enter Tryz.func43, Tryz.ntmps43
  go_wp2_with fail
  go_ret2
  exact ⟨rfl, Below.refl _ _⟩
set_option maxHeartbeats 400000 in
theorem pack_over (a : Option Addr) (c : Nat) (l : List Nat) (wide : Nat) (w : World) (B' : Nat) (h : wide ≤ 64) (hn : l.length ≤ 64) (hx : ∀ x ∈ l, x < 18446744073709551616) (hu : Nums w B' a l) (ho : wide < B.wd l) :
    Calls Tryz.prog 43 #[.slice a l.length c, .int .i64 wide] w (PackPost ([], 8) w) := by
  have g1 : decide ((wide : Int) < 0) = false := by simp
  have g2 : decide ((64 : Int) < (wide : Int)) = false := by simp; omega
  have hwd := fun w' h => width_any a c l w' B' (by unfold maxLen; omega) hx h
  have HW := Lib.hid hwd
  have h64 := B.wd_64 l hx
  clear hwd hx
  go_enter Tryz.func43, Tryz.ntmps43
  go_wp2_with fail
  refine (HW.out _ hu).mono ?_
  rintro e w1 ⟨rfl, rfl⟩
  go_wp2_with fail
  go_ret2
  exact ⟨rfl, Below.refl _ _⟩
theorem pk_take (w : Nat) (l : List Nat) (k : Nat) (hk : k < l.length) : B.pk w (l.take (k + 1)) = B.pk w (l.take k) + l.getD k 0 * 2 ^ (k * w) := by
  rw [List.take_succ_eq_append_getElem hk, B.pk_append, List.length_take, Nat.min_eq_left (by omega)]
  simp [B.pk, List.getD, List.getElem?_eq_getElem hk, Nat.mul_comm]
theorem pk_take_lt (w : Nat) (l : List Nat) (k : Nat) (hk : k ≤ l.length) (h : ∀ x ∈ l, x < 2 ^ w) : B.pk w (l.take k) < 2 ^ (k * w) := by
  have := B.pk_lt w (l.take k) (fun x hx => h x (List.mem_of_mem_take hx))
  rw [List.length_take, Nat.min_eq_left hk, Nat.mul_comm] at this
  exact this
set_option maxHeartbeats 1000000 in
set_option maxRecDepth 100000 in
theorem pack_some (b off c : Nat) (l : List Nat) (wide : Nat) (w : World) (h : wide ≤ 64) (hn : l.length ≤ 64) (hx : ∀ x ∈ l, x < 18446744073709551616) (hb : b < w.heap.size)
    (h1 : ∀ i, i < l.length → w.cell? ⟨b, off + i, none⟩ = some (.int .u64 ((l.getD i 0 : Nat) : Int))) (ho : B.wd l ≤ wide) :
    Calls Tryz.prog 43 #[.slice (some ⟨b, off, none⟩) l.length c, .int .i64 wide] w (PackPost (B.le (B.sz (l.length * wide)) (B.pk wide l), 0) w) := by
  obtain ⟨i0, hi, hz0, hz1, hz2⟩ := info_parts info_u8
  have g1 : decide ((wide : Int) < 0) = false := by simp
  have g2 : decide ((64 : Int) < (wide : Int)) = false := by simp; omega
  have hwd := width_some b off c l w (by unfold maxLen; omega) hx h1
  have HW := Lib.hid hwd
  have HF := Lib.hid ((B.wd_le l wide).1 ho)
  have H1 := Lib.hid h1
  have HX := Lib.hid hx
  have hmul : l.length * wide ≤ 64 * 64 := Nat.mul_le_mul hn h
  have hsz : 8 * B.sz (l.length * wide) ≥ l.length * wide ∧ B.sz (l.length * wide) ≤ 512 := by unfold B.sz; omega
  have hmulI : ((l.length : Int) * (wide : Int)) = ((l.length * wide : Nat) : Int) := by simp
  clear hwd hx h1
  generalize hM : l.length * wide = M at *
  have HM := Lib.hid hM
  clear hM
  go_enter Tryz.func43, Tryz.ntmps43
  go_wp2_with fail
  refine (HW.out).mono ?_
  rintro e w1 ⟨rfl, rfl⟩
  go_wp2_with fail
  refine (bsize_any M _ (by omega)).mono ?_
  rintro e w1 ⟨rfl, rfl⟩
  generalize hK : B.sz M = K at *
  have HK := Lib.hid hK
  clear hK
  go_wp2_with (at_make; refine wpList_make_full _ rfl _ _ 42 rfl w.heap.size 5 i0 (.int .u8 0) 1 Tryz.underlying42 hi hz0 hz1 .i64 .i64 _ _ K rfl rfl rfl rfl (by rw [hz2]; omega) (by unfold maxLen; omega) (Nat.le_refl _) ?_; intro w0 hown0 hgrow0)
  have hb0 : Below w.heap.size w w0 := (Below.refl _ _).grown hgrow0 (Nat.le_refl _) (fun k hk => by cases hk)
  have hblk0 := made_blk hown0
  clear hown0 hgrow0
  have hgsz : w.heap.size < w0.heap.size := hblk0.lt
  obtain ⟨g, hg⟩ : ∃ g, g = w.heap.size := ⟨_, rfl⟩
  rw [← hg] at hblk0 ⊢
  have HG := Lib.hid hg
  clear hg
  go_loopw [7, 8, 33] (fun _ _ i wr => ∃ k : Nat, k ≤ l.length ∧ i = .int .i64 k ∧ Blk wr g (B.le K (B.pk wide (l.take k))) ∧ Below w.heap.size w wr) (fun _ _ i _ => l.length - (intOf i).toNat)
  case atStart => exact ⟨0, by omega, rfl, hblk0, hb0⟩
  case round =>
    obtain ⟨k, hk, rfl, hblk, hbw⟩ := hrel
    by_cases hlt : k < l.length
    · have hcell : wr.cell? ⟨b, off + k, none⟩ = some (.int .u64 ((l.getD k 0 : Nat) : Int)) := by
        rw [hbw.cell (p := ⟨b, off + k, none⟩) hb]; exact H1.out k hlt
      have hxk := HF.out _ (getD_mem l k hlt)
      have HP := Lib.hid (pk_take wide l k hlt)
      have hV := pk_take_lt wide l k hk HF.out
      have hkw : k * wide + wide ≤ M := by
        rw [← HM.out, show k * wide + wide = (k + 1) * wide by rw [Nat.add_mul, Nat.one_mul]]; exact Nat.mul_le_mul_right _ (by omega)
      have hkI : ((k : Int) * (wide : Int)) = ((k * wide : Nat) : Int) := by simp
      generalize l.getD k 0 = x at *
      generalize B.pk wide (l.take k) = V at *
      have hput := put_any g K K (k * wide) wide x V wr h (by omega) (by omega) hV hxk hblk
      have HPUT := Lib.hid hput
      clear hput hV hxk
      generalize k * wide = f at *
      go_wp2_with fail
      refine (HPUT.out).mono ?_
      rintro e w2 ⟨rfl, hblk2, hbw2⟩
      go_wp2_with fail
      refine ⟨⟨k + 1, by omega, by go_num, by rw [HP.out]; exact hblk2, hbw.trans (hbw2.mono (by rw [HG.out]; exact Nat.le_refl _))⟩, by simp [intOf]; omega⟩
    · obtain rfl : k = l.length := by omega
      rw [List.take_length] at hblk
      have htx := hblk.text (cap := K)
      rw [B.le_length] at htx
      go_wp2_with fail
      go_ret2
      exact ⟨rfl, hbw⟩
set_option maxHeartbeats 400000 in
set_option maxRecDepth 100000 in
theorem pack_nil (a : Option Addr) (c : Nat) (wide : Nat) (w : World) (h : wide ≤ 64) :
    Calls Tryz.prog 43 #[.slice a 0 c, .int .i64 wide] w (PackPost ([], 0) w) := by
  obtain ⟨i0, hi, hz0, hz1, hz2⟩ := info_parts info_u8
  have g1 : decide ((wide : Int) < 0) = false := by simp
  have g2 : decide ((64 : Int) < (wide : Int)) = false := by simp; omega
  go_enter Tryz.func43, Tryz.ntmps43
  go_wp2_with fail
  refine (width_nil a c w).mono ?_
  rintro e w1 ⟨rfl, rfl⟩
  go_wp2_with fail
  refine (bsize_any 0 _ (by omega)).mono ?_
  rintro e w1 ⟨rfl, rfl⟩
  go_wp2_with (at_make; refine wpList_make_full _ rfl _ _ 42 rfl w.heap.size 5 i0 (.int .u8 0) 1 Tryz.underlying42 hi hz0 hz1 .i64 .i64 _ _ 0 rfl rfl rfl rfl (by rw [hz2]; omega) (by unfold maxLen; omega) (Nat.le_refl _) ?_; intro w0 hown0 hgrow0)
  have hb0 : Below w.heap.size w w0 := (Below.refl _ _).grown hgrow0 (Nat.le_refl _) (fun k hk => by cases hk)
  have htx := (made_blk hown0).text (cap := 0)
  simp only [B.le, List.length_nil] at htx
  refine wp_loop_rounds 1 ?_
  rw [rounds_succ]
  go_wp2_with fail
  go_ret2
  exact ⟨rfl, hb0⟩
theorem pack_any (a : Option Addr) (c : Nat) (l : List Nat) (wide : Int) (w : World) (hx : ∀ x ∈ l, x < 18446744073709551616) (hu : Nums w w.heap.size a l) :
    Calls Tryz.prog 43 #[.slice a l.length c, .int .i64 wide] w (PackPost (packR l wide) w) := by
  by_cases h0 : wide < 0 ∨ 64 < wide
  · rw [packR, if_pos h0]; exact pack_range a c _ wide w h0
  obtain ⟨n, rfl⟩ : ∃ n : Nat, wide = n := ⟨wide.toNat, by omega⟩
  rw [packR, if_neg h0]
  by_cases h1 : 64 < l.length
  · rw [if_pos h1]; exact pack_many a c _ n w (by omega) h1
  rw [if_neg h1, Int.toNat_natCast]
  by_cases h2 : n < B.wd l
  · rw [if_pos h2]; exact pack_over a c l n w _ (by omega) (by omega) hx hu h2
  rw [if_neg h2]
  by_cases hn : l = []
  · subst hn
    have e : B.le (B.sz (([] : List Nat).length * n)) (B.pk n []) = [] := by simp [B.sz, B.le]
    rw [e]; exact pack_nil a c n w (by omega)
  · obtain ⟨b, off, rfl, hb, hc⟩ := hu hn
    exact pack_some b off c l n w (by omega) (by omega) hx hb hc (by omega)
end Go.Proofs.YtcachhnhncodoaaGreat
namespace Go.Proofs.YtcachhnhncodoaaGreat
open Go.RowKit
set_option linter.unusedVariables false
def OwnB (base B : Nat) (w : World) (xs : List Nat) : Prop :=
  base ≤ B ∧ ∃ v, w.heap[B]? = some (.cells #[v] 44 (0, 0)) ∧ w.ownsRow base 34 1 v xs.length (nv xs)
theorem own_other {w : World} {base B n : Nat} {u v : Value} {xs : List Value} (h : w.heap[B]? = some (.cells #[u] 44 (0, 0))) (ho : w.ownsRow base 34 1 v n xs) : v.ownBlock ≠ some B := by
  rcases ho.2 with ⟨rfl, _⟩ | ⟨g, cap, cur, rfl, _, hh, _⟩
  · simp [Value.ownBlock]
  · intro he
    have hg : g = B := by simpa [Value.ownBlock] using he
    rw [hg, h] at hh
    injection hh with hh
    injection hh with _ ht
    exact absurd ht (by decide)
theorem OwnB.below {base B : Nat} {w w' : World} {xs : List Nat} (h : OwnB base B w xs) (hb : Below w.heap.size w w') : OwnB base B w' xs := by
  obtain ⟨h0, v, hv, hown⟩ := h
  exact ⟨h0, v, (hb.block B (lt_of_block hv)).trans hv, row_below hown hb⟩
theorem OwnB.nums {base B : Nat} {w : World} {xs : List Nat} (h : OwnB base B w xs) : ∃ a c, w.cell? ⟨B, 0, none⟩ = some (.slice a xs.length c) ∧ Nums w w.heap.size a xs := by
  obtain ⟨h0, v, hv, hown⟩ := h
  obtain ⟨a, c, rfl, hn⟩ := numRow_nums hown
  exact ⟨a, c, cell_of_one hv, hn⟩
set_option maxHeartbeats 400000 in
set_option maxRecDepth 100000 in
theorem upush_any (base B x : Nat) (xs : List Nat) (w : World) (h : OwnB base B w xs) (hb : (xs.length + 1) * 8 ≤ 140737488355328) :
    Calls Tryz.prog 146 #[.int .u64 x, .pointer (some ⟨B, 0, none⟩)] w fun e w' => e = .returned (.tuple #[]) ∧ OwnB base B w' (xs ++ [x]) ∧ Below base w w' := by
  obtain ⟨hbase, v, hv, hown⟩ := h
  obtain ⟨i, hi, hz0, hz1, hz2⟩ := info_parts info_u64
  have hc := cell_of_one hv
  have hf := free_of_one hv
  have hB := lt_of_block hv
  have hne0 := own_other hv hown
  go_enter Tryz.func146, Tryz.ntmps146
  go_wp2_with (at_builtin; refine wpList_append_own _ rfl (.tmp 3) (.tmp 5) 44 rfl base 34 i (.int .u64 0) 1 8 Tryz.underlying44 hi hz0 hz1 hz2 rfl (by decide) v xs.length _ rfl (hown.alloc _) ⟨w.heap.size, 0, none⟩ 1 1 [.int .u64 x] rfl rfl ?c1 ?c2 (by unfold maxLen; omega) hb (by simp; omega) ?_)
  case c1 =>
    intro j u hj
    match j, hj with
    | 0, hj => simp at hj; subst hj; simp [Addr.add]
  case c2 => intro u hu; simp at hu; subst hu; rfl
  intro v' w1 hown' hgrow _
  have hne : some B ≠ v.ownBlock := fun h => hne0 h.symm
  obtain ⟨g', cap', hv', _, hlt⟩ := hown'.form (by omega)
  have hv1 : w1.heap[B]? = some (.cells #[v] 44 (0, 0)) := by
    rw [hgrow.block B (by simp; omega) hne, Below.heap_alloc _ _ _ hB]; exact hv
  have hne1 := own_other hv1 hown'
  have hc1 := cell_of_one hv1
  have hf1 := free_of_one hv1
  rw [hv']
  go_wp2
  go_end0
  refine ⟨rfl, ⟨hbase, _, one_setCell hv1, ?_⟩, ?_⟩
  · have := ownsRow_setCell_other hown' (a := ⟨B, 0, none⟩) hne1 v'
    rw [hv'] at this
    simpa [nv] using this
  · exact ((((Below.refl base w).alloc (by omega) _).grown hgrow (by simp; omega) (fun k hk => (hown.lt k hk).1))).setCell hbase _
def chkF (l : List UInt8) (M : Nat) : Nat := if l.length ≠ B.sz M ∨ B.leN l / 2 ^ M ≠ 0 then 1 else 0
def chkR (l : List UInt8) (many wide : Int) : Nat :=
  if wide < 0 ∨ 64 < wide ∨ many < 0 then 3 else if 64 < many then 2
  else chkF l (many.toNat * wide.toNat)
set_option maxHeartbeats 400000 in
theorem check_range (s : ByteArray) (many wide : Int) (w : World) (h : wide < 0 ∨ 64 < wide ∨ many < 0) :
    Calls Tryz.prog 144 #[.string s, .int .i64 many, .int .i64 wide] w fun e w' => e = .returned (.int .i64 3) ∧ w = w' := by
  by_cases h0 : wide < 0
  · have g1 : decide (wide < 0) = true := by simp; omega
    go_enter Tryz.func144, Tryz.ntmps144
    go_wp2_with fail
    go_ret
    exact ⟨rfl, rfl⟩
  · have g1 : decide (wide < 0) = false := by simp; omega
    by_cases h1 : 64 < wide
    · have g2 : decide (64 < wide) = true := by simp; omega
      go_enter Tryz.func144, Tryz.ntmps144
      go_wp2_with fail
      go_ret
      exact ⟨rfl, rfl⟩
    · have g2 : decide (64 < wide) = false := by simp; omega
      have g3 : decide (many < 0) = true := by simp; omega
      go_enter Tryz.func144, Tryz.ntmps144
      go_wp2_with fail
      go_ret
      exact ⟨rfl, rfl⟩
set_option maxHeartbeats 400000 in
theorem check_many (s : ByteArray) (many : Int) (wide : Nat) (w : World) (h : wide ≤ 64) (hm : 64 < many) :
    Calls Tryz.prog 144 #[.string s, .int .i64 many, .int .i64 wide] w fun e w' => e = .returned (.int .i64 2) ∧ w = w' := by
  have g1 : decide ((wide : Int) < 0) = false := by simp
  have g2 : decide ((64 : Int) < (wide : Int)) = false := by simp; omega
  have g3 : decide (many < 0) = false := by simp; omega
  go_enter Tryz.func144, Tryz.ntmps144
  go_wp2_with fail
  go_ret
  exact ⟨rfl, rfl⟩
theorem top_bits (l : List UInt8) (E : Nat) (h : E ≤ 8 * l.length) : B.leN l / 2 ^ E % 2 ^ (8 * l.length - E) = B.leN l / 2 ^ E := by
  apply Nat.mod_eq_of_lt
  have := B.leN_lt l
  rw [B.two8] at this
  rw [Nat.div_lt_iff_lt_mul (B.pos2 E), ← Nat.pow_add, Nat.sub_add_cancel h]
  exact this
set_option maxHeartbeats 1000000 in
theorem check_in (s : ByteArray) (many wide : Nat) (w : World) (h : wide ≤ 64) (hm : many ≤ 64) (hs : s.size ≤ maxLen) :
    Calls Tryz.prog 144 #[.string s, .int .i64 many, .int .i64 wide] w fun e w' => e = .returned (.int .i64 (chkF s.data.toList (many * wide))) ∧ w = w' := by
  unfold maxLen at hs
  have g1 : decide ((wide : Int) < 0) = false := by simp
  have g2 : decide ((64 : Int) < (wide : Int)) = false := by simp; omega
  have g3 : decide ((many : Int) < 0) = false := by simp
  have hmul : many * wide ≤ 64 * 64 := Nat.mul_le_mul hm h
  have hmulI : ((many : Int) * (wide : Int)) = ((many * wide : Nat) : Int) := by simp
  have htop := top_bits s.data.toList (many * wide)
  rw [len_data] at htop
  generalize many * wide = M at *
  by_cases hz : s.size = B.sz M
  · have hM8 : M ≤ 8 * s.size := by rw [hz]; unfold B.sz; omega
    have hsm : s.size ≤ 4096 ∧ 8 * s.size - M ≤ 7 := by rw [hz]; unfold B.sz; omega
    have htk := fun w => take_any s M (8 * s.size - M) w (by omega) (by omega) (by omega) (by unfold maxLen; omega)
    rw [htop hM8] at htk
    have g4 : ((s.size : Int) != (B.sz M : Int)) = false := by rw [hz]; simp
    have hsub : ((8 : Int) * (s.size : Int) - (M : Int)) = ((8 * s.size - M : Nat) : Int) := by omega
    have HZ := Lib.hid hz
    clear hz htop
    by_cases hq : B.leN s.data.toList / 2 ^ M = 0
    · rw [hq] at htk
      have HTK := Lib.hid htk
      have HQ := Lib.hid hq
      clear htk hq
      go_enter Tryz.func144, Tryz.ntmps144
      go_wp2_with fail
      refine (bsize_any M _ (by omega)).mono ?_
      rintro e w1 ⟨rfl, rfl⟩
      go_wp2_with fail
      refine (HTK.out _).mono ?_
      rintro e w1 ⟨rfl, rfl⟩
      go_wp2_with fail
      go_ret
      refine ⟨?_, rfl⟩
      rw [chkF, if_neg (by rw [HQ.out, len_data]; simp; exact HZ.out)]; rfl
    · have HQ' := Lib.hid hq
      have g5 : (((B.leN s.data.toList / 2 ^ M : Nat) : Int) != 0) = true := by rw [bne_iff_ne]; omega
      generalize B.leN s.data.toList / 2 ^ M = X at htk g5
      have HTK := Lib.hid htk
      clear htk hq
      go_enter Tryz.func144, Tryz.ntmps144
      go_wp2_with fail
      refine (bsize_any M _ (by omega)).mono ?_
      rintro e w1 ⟨rfl, rfl⟩
      go_wp2_with fail
      refine (HTK.out _).mono ?_
      rintro e w1 ⟨rfl, rfl⟩
      go_wp2_with fail
      go_ret
      refine ⟨?_, rfl⟩
      rw [chkF, if_pos (Or.inr HQ'.out)]; rfl
  · have g4 : ((s.size : Int) != (B.sz M : Int)) = true := by rw [bne_iff_ne]; omega
    have HZ := Lib.hid hz
    clear hz htop
    go_enter Tryz.func144, Tryz.ntmps144
    go_wp2_with fail
    refine (bsize_any M _ (by omega)).mono ?_
    rintro e w1 ⟨rfl, rfl⟩
    go_wp2_with fail
    go_ret
    refine ⟨?_, rfl⟩
    rw [chkF, if_pos (Or.inl (by rw [len_data]; exact HZ.out))]; rfl
theorem check_any (s : ByteArray) (many wide : Int) (w : World) (hs : s.size ≤ maxLen) :
    Calls Tryz.prog 144 #[.string s, .int .i64 many, .int .i64 wide] w fun e w' => e = .returned (.int .i64 (chkR s.data.toList many wide)) ∧ w = w' := by
  by_cases h0 : wide < 0 ∨ 64 < wide ∨ many < 0
  · rw [chkR, if_pos h0]; exact check_range s many wide w h0
  obtain ⟨n, rfl⟩ : ∃ n : Nat, wide = n := ⟨wide.toNat, by omega⟩
  rw [chkR, if_neg h0]
  by_cases h1 : 64 < many
  · rw [if_pos h1]; exact check_many s many n w (by omega) h1
  obtain ⟨m, rfl⟩ : ∃ m : Nat, many = m := ⟨many.toNat, by omega⟩
  rw [if_neg h1, Int.toNat_natCast, Int.toNat_natCast]
  exact check_in s m n w (by omega) (by omega) hs
theorem chk_zero (l : List UInt8) (many wide : Int) (h : chkR l many wide = 0) : ∃ m n : Nat, many = m ∧ wide = n ∧ m ≤ 64 ∧ n ≤ 64 ∧ l.length = B.sz (m * n) ∧ B.leN l / 2 ^ (m * n) = 0 := by
  unfold chkR at h
  by_cases h0 : wide < 0 ∨ 64 < wide ∨ many < 0
  · rw [if_pos h0] at h; omega
  rw [if_neg h0] at h
  by_cases h1 : 64 < many
  · rw [if_pos h1] at h; omega
  rw [if_neg h1] at h
  unfold chkF at h
  refine ⟨many.toNat, wide.toNat, by omega, by omega, by omega, by omega, ?_⟩
  by_cases h2 : l.length ≠ B.sz (many.toNat * wide.toNat) ∨ B.leN l / 2 ^ (many.toNat * wide.toNat) ≠ 0
  · rw [if_pos h2] at h; omega
  · omega
set_option maxHeartbeats 1000000 in
set_option maxRecDepth 100000 in
theorem beach_any (base Bk : Nat) (s : ByteArray) (many wide : Nat) (w : World) (h : wide ≤ 64) (hm : many ≤ 64) (hs : many * wide ≤ 8 * s.size) (hz : s.size ≤ 4096) (hown : OwnB base Bk w []) :
    Calls Tryz.prog 145 #[.string s, .int .i64 many, .int .i64 wide, .func (.func 146) #[] #[.pointer (some ⟨Bk, 0, none⟩)]] w fun e w' => e = .returned (.tuple #[]) ∧ OwnB base Bk w' (B.dg wide many (B.leN s.data.toList)) ∧ Below base w w' := by
  generalize hT : B.leN s.data.toList = T
  have HT := Lib.hid hT
  clear hT
  have HS := Lib.hid hs
  clear hs
  go_enter Tryz.func145, Tryz.ntmps145
  go_wp2_with fail
  go_loopw [8, 10] (fun _ i wr => ∃ k : Nat, k ≤ many ∧ i = .int .i64 k ∧ OwnB base Bk wr (B.dg wide k T) ∧ Below base w wr) (fun _ i _ => many - (intOf i).toNat)
  case atStart => exact ⟨0, by omega, rfl, hown, Below.refl _ _⟩
  case round =>
    obtain ⟨k, hk, rfl, ho, hbw⟩ := hrel
    by_cases hlt : k < many
    · have hkw : k * wide + wide ≤ many * wide := by
        rw [show k * wide + wide = (k + 1) * wide by rw [Nat.add_mul, Nat.one_mul]]; exact Nat.mul_le_mul_right _ (by omega)
      have hmw : many * wide ≤ 64 * 64 := Nat.mul_le_mul hm h
      have hkI : ((k : Int) * (wide : Int)) = ((k * wide : Nat) : Int) := by simp
      have htk := fun w => take_any s (k * wide) wide w h (by have := HS.out; omega) (by omega) (by unfold maxLen; omega)
      rw [HT.out] at htk
      have HTK := Lib.hid htk
      have HSN := Lib.hid (B.dg_snoc wide k T)
      rw [Nat.mul_comm wide k] at HSN
      have hln := B.dg_length wide k T
      have HPU := Lib.hid (upush_any base Bk (T / 2 ^ (k * wide) % 2 ^ wide) (B.dg wide k T) wr ho (by rw [hln]; omega))
      clear htk hln
      have hfb : k * wide ≤ 4096 := by omega
      generalize hf : k * wide = f at *
      generalize T / 2 ^ f % 2 ^ wide = x at *
      clear hf hmw hkw
      go_wp2_with fail
      refine (HTK.out _).mono ?_
      rintro e w1 ⟨rfl, rfl⟩
      go_wp2_with fail
      refine (HPU.out).mono ?_
      rintro e w2 ⟨rfl, ho2, hb2⟩
      go_wp2_with fail
      exact ⟨⟨k + 1, by omega, by go_num, by rw [HSN.out]; exact ho2, hbw.trans hb2⟩, by simp [intOf]; omega⟩
    · obtain rfl : k = many := by omega
      go_wp2_with fail
      go_end0
      exact ⟨rfl, ho, hbw⟩
def unpR (l : List UInt8) (many wide : Int) : List Nat × Nat :=
  if chkR l many wide = 0 then (B.dg wide.toNat many.toNat (B.leN l), 0) else ([], chkR l many wide)
set_option maxHeartbeats 1000000 in
set_option maxRecDepth 100000 in
theorem unpack_any (s : ByteArray) (many wide : Int) (w : World) (hs : s.size ≤ maxLen) :
    Calls Tryz.prog 118 #[.string s, .int .i64 many, .int .i64 wide] w (AllPost (unpR s.data.toList many wide) w) := by
  have hmf : ∀ (fn : Fn) (first cap : Array Value) (w : World), (Instr.makeFunc fn first cap).run Tryz.prog w = .ok (.func fn first cap) w := fun _ _ _ _ => rfl
  obtain ⟨i0, hi, hz0, hz1, hz2⟩ := info_parts info_u64
  have hck := fun w => check_any s many wide w hs
  by_cases hc : chkR s.data.toList many wide = 0
  · obtain ⟨m, n, rfl, rfl, hm, hn, hl, hq⟩ := chk_zero _ _ _ hc
    have HR := Lib.hid (show unpR s.data.toList m n = (B.dg n m (B.leN s.data.toList), 0) by rw [unpR, if_pos hc]; simp)
    rw [hc] at hck
    have HCK := Lib.hid hck
    rw [len_data] at hl
    have hmn : m * n ≤ 64 * 64 := Nat.mul_le_mul hm hn
    have h8 : m * n ≤ 8 * s.size ∧ s.size ≤ 4096 := by rw [hl]; unfold B.sz; omega
    have HBE := Lib.hid (fun base Bk w ho => beach_any base Bk s m n w hn hm h8.1 h8.2 ho)
    clear hck hc hq hl hmn h8
    generalize B.dg n m (B.leN s.data.toList) = xs at *
    go_enter Tryz.func118, Tryz.ntmps118
    go_wp2_with fail
    refine (HCK.out _).mono ?_
    rintro e w1 ⟨rfl, rfl⟩
    go_wp2_with (at_make; refine wpList_make_own _ rfl _ _ 44 rfl w.heap.size 34 i0 (.int .u64 0) 1 Tryz.underlying44 hi hz0 hz1 .i64 .i64 _ m rfl rfl rfl (by rw [hz2]; omega) (by unfold maxLen; omega) (Nat.le_refl _) ?_; intro w0 hown0 hgrow0)
    have hb0 : Below w.heap.size w w0 := (Below.refl _ _).grown hgrow0 (Nat.le_refl _) (fun k hk => by cases hk)
    have hob : OwnB w.heap.size w0.heap.size (w0.alloc (.cells #[.slice (some ⟨w.heap.size, 0, none⟩) 0 m] 44)) [] :=
      ⟨hb0.size, _, heap_alloc_new w0 _, hown0.alloc _⟩
    clear hown0 hgrow0
    go_wp2_with fail
    refine (HBE.out w.heap.size w0.heap.size _ hob).mono ?_
    rintro e w2 ⟨rfl, ho2, hb2⟩
    obtain ⟨a, c, hcell, hnum⟩ := ho2.nums
    go_wp2_with fail
    go_ret2
    rw [HR.out]
    exact ⟨a, c, rfl, hnum, (hb0.alloc hb0.size _).trans hb2⟩
  · have HR := Lib.hid (show unpR s.data.toList many wide = ([], chkR s.data.toList many wide) by rw [unpR, if_neg hc])
    have g1 : ((chkR s.data.toList many wide : Int) != 0) = true := by rw [bne_iff_ne]; omega
    generalize chkR s.data.toList many wide = er at *
    have HCK := Lib.hid hck
    clear hck hc
    go_enter Tryz.func118, Tryz.ntmps118
    go_wp2_with fail
    refine (HCK.out _).mono ?_
    rintro e w1 ⟨rfl, rfl⟩
    go_wp2_with fail
    go_ret2
    rw [HR.out]
    exact ⟨none, 0, rfl, Nums.nil _ _ _, Below.refl _ _⟩
def getR (l : List UInt8) (many wide at_ : Int) : Nat × Nat :=
  if chkR l many wide = 0 then (if at_ < 0 ∨ many ≤ at_ then (0, 3) else (B.leN l / 2 ^ (at_.toNat * wide.toNat) % 2 ^ wide.toNat, 0)) else (0, chkR l many wide)
end Go.Proofs.YtcachhnhncodoaaGreat
namespace Go.Proofs.YtcachhnhncodoaaGreat
open Go.RowKit
set_option linter.unusedVariables false
theorem nums_lit (w : World) (l : List Nat) : Nums (w.alloc (.cells (nv l).toArray 34)) (w.alloc (.cells (nv l).toArray 34)).heap.size (some ⟨w.heap.size, 0, none⟩) l := by
  intro _
  refine ⟨w.heap.size, 0, rfl, by simp, fun i hi => ?_⟩
  rw [Nat.zero_add, World.cell?_alloc_new]
  simp [nv, List.getElem?_eq_getElem hi]
theorem sz_pow (M : Nat) : 2 ^ M ≤ 256 ^ B.sz M := by
  rw [B.two8]; apply Nat.pow_le_pow_right (by omega); unfold B.sz; omega
theorem leN_pack (n : Nat) (l : List Nat) (h : ∀ x ∈ l, x < 2 ^ n) : B.leN (B.le (B.sz (l.length * n)) (B.pk n l)) = B.pk n l := by
  rw [B.leN_le]
  apply Nat.mod_eq_of_lt
  have := B.pk_lt n l h
  rw [Nat.mul_comm] at this
  exact Nat.lt_of_lt_of_le this (sz_pow _)
theorem unp_pack (n : Nat) (l : List Nat) (hn : n ≤ 64) (hl : l.length ≤ 64) (h : ∀ x ∈ l, x < 2 ^ n) :
    unpR (B.le (B.sz (l.length * n)) (B.pk n l)) l.length n = (l, 0) ∧ (∀ k : Nat, k < l.length → getR (B.le (B.sz (l.length * n)) (B.pk n l)) l.length n k = (l.getD k 0, 0)) := by
  have hlt := B.pk_lt n l h
  rw [Nat.mul_comm] at hlt
  have hck : chkR (B.le (B.sz (l.length * n)) (B.pk n l)) l.length n = 0 := by
    unfold chkR
    rw [if_neg (by omega), if_neg (by omega)]
    unfold chkF
    rw [if_neg]
    rw [Int.toNat_natCast, Int.toNat_natCast, B.le_length, leN_pack n l h, Nat.div_eq_of_lt hlt]
    simp
  constructor
  · rw [unpR, if_pos hck, leN_pack n l h, Int.toNat_natCast, Int.toNat_natCast, B.dg_pk n l h]
  · intro k hk
    rw [getR, if_pos hck, if_neg (by omega), leN_pack n l h, Int.toNat_natCast, Int.toNat_natCast, Nat.mul_comm k n]
    have := B.dg_get n l.length (B.pk n l) k hk
    rw [B.dg_pk n l h] at this
    rw [← this]
theorem pack_unp (l : List UInt8) (many wide : Int) (h : chkR l many wide = 0) :
    packR (B.dg wide.toNat many.toNat (B.leN l)) wide = (l, 0) ∧ ((B.dg wide.toNat many.toNat (B.leN l)).length : Int) = many := by
  obtain ⟨m, n, rfl, rfl, hm, hn, hl, hq⟩ := chk_zero _ _ _ h
  simp only [Int.toNat_natCast]
  have hdl := B.dg_length n m (B.leN l)
  refine ⟨?_, by rw [hdl]⟩
  unfold packR
  rw [if_neg (by omega), if_neg (by omega)]
  have hwd : B.wd (B.dg n m (B.leN l)) ≤ n := (B.wd_le _ _).2 (B.dg_lt n m (B.leN l))
  simp only [Int.toNat_natCast]
  rw [if_neg (by omega), hdl, B.pk_dg, ← hl]
  have hlt : B.leN l < 2 ^ (m * n) := by
    rcases Nat.div_eq_zero_iff.1 hq with h0 | h0
    · have := B.pos2 (m * n); omega
    · exact h0
  rw [Nat.mul_comm n m, Nat.mod_eq_of_lt hlt, B.le_leN]
end Go.Proofs.YtcachhnhncodoaaGreat
namespace Go.Proofs.YtcachhnhncodoaaGreat
open Go.RowKit
set_option linter.unusedVariables false
def TextPost (l : List UInt8) (w : World) (e : Ending) (w' : World) : Prop := e = .returned (.string (str l)) ∧ Below w.heap.size w w'
theorem run_text1 (w : World) (n : Nat) :
    (convert 42 9 (.slice (some ⟨w.heap.size, 0, none⟩) 1 1)).run Tryz.prog (w.alloc (.cells #[.int .u8 ((n : Int) % 256)] 5)) =
      .ok (.string (str [UInt8.ofNat n])) (w.alloc (.cells #[.int .u8 ((n : Int) % 256)] 5)) := by
  rw [← str_of [UInt8.ofNat n]]
  refine run_convert_bytes_arg _ 42 5 Tryz.underlying42 Tryz.underlying5 _ 0 1 1 _ (by simp) ?_ 9 Tryz.underlying9
  intro i hi
  obtain rfl : i = 0 := by omega
  rw [Nat.zero_add, World.cell?_alloc_new]
  simp
set_option maxHeartbeats 400000 in
theorem one_any (n : Nat) (w : World) (hn : n < 9223372036854775807) :
    Calls Tryz.prog 33 #[.int .i64 n] w (TextPost [UInt8.ofNat n] w) := by
  have ht := run_text1 w n
  go_enter Tryz.func33, Tryz.ntmps33
  go_wp2_with fail
  go_ret
  exact ⟨rfl, (Below.refl _ _).alloc (Nat.le_refl _) _⟩
theorem one_eq (x : Int) (n : Nat) (w : World) (hx : x = n) (hn : n < 9223372036854775807) :
    Calls Tryz.prog 33 #[.int .i64 x] w (TextPost [UInt8.ofNat n] w) := by
  subst hx; exact one_any n w hn
theorem str_append (a b : List UInt8) : str a ++ str b = str (a ++ b) := by
  apply ByteArray.ext
  simp [str]
end Go.Proofs.YtcachhnhncodoaaGreat
namespace Go.Proofs.YtcachhnhncodoaaGreat
open Go.RowKit
set_option linter.unusedVariables false
set_option maxHeartbeats 400000 in
theorem pow2_any (k : Nat) (w : World) (hk : k < 64) :
    Calls Tryz.prog 154 #[.int .i64 k] w fun e w' => e = .returned (.int .u64 ((2 ^ k : Nat) : Int)) ∧ w = w' := by
  go_enter Tryz.func154, Tryz.ntmps154
  go_wp2_with fail
  go_loop [3, 4] (fun n i => ∃ j : Nat, j ≤ k ∧ i = .int .i64 j ∧ n = .int .u64 ((2 ^ j : Nat) : Int)) (fun _ i => k - (intOf i).toNat)
  case atStart => exact ⟨0, by omega, rfl, rfl⟩
  case round =>
    obtain ⟨j, hj, rfl, rfl⟩ := hrel
    by_cases hlt : j < k
    · have hp : 2 ^ j * 2 < 18446744073709551616 := by
        have : 2 ^ (j + 1) ≤ 2 ^ 63 := Nat.pow_le_pow_right (by omega) (by omega)
        rw [Nat.pow_succ] at this; omega
      have HP := Lib.hid (Nat.pow_succ 2 j)
      generalize 2 ^ j = P at *
      go_wp2_with fail
      exact ⟨⟨j + 1, by omega, by go_num, by rw [HP.out]; simp⟩, by simp [intOf]; omega⟩
    · obtain rfl : j = k := by omega
      go_wp2_with fail
      go_ret
      exact ⟨rfl, rfl⟩
set_option maxHeartbeats 400000 in
theorem fits_any (n k : Nat) (w : World) (hn : n < 18446744073709551616) (hk : k ≤ 64) :
    Calls Tryz.prog 124 #[.int .u64 n, .int .i64 k] w fun e w' => e = .returned (.bool (decide (B.bl n ≤ k))) ∧ w = w' := by
  by_cases h : k = 64
  · subst h
    have HT := Lib.hid (show decide (B.bl n ≤ 64) = true by rw [decide_eq_true_iff, B.bl_le]; exact hn)
    go_enter Tryz.func124, Tryz.ntmps124
    go_wp2_with fail
    go_ret
    exact ⟨by rw [HT.out]; rfl, rfl⟩
  · have g1 : decide ((64 : Int) ≤ (k : Int)) = false := by simp; omega
    have HT := Lib.hid (show decide (B.bl n ≤ k) = decide (n < 2 ^ k) from decide_eq_decide.2 (B.bl_le n k))
    have HP := Lib.hid (fun w => pow2_any k w (by omega))
    generalize 2 ^ k = P at *
    go_enter Tryz.func124, Tryz.ntmps124
    go_wp2_with fail
    refine (HP.out _).mono ?_
    rintro e w1 ⟨rfl, rfl⟩
    go_wp2_with fail
    go_ret
    exact ⟨by rw [HT.out]; rfl, rfl⟩
set_option maxHeartbeats 1000000 in
theorem rwidth_some (b off c : Nat) (l : List Nat) (w : World) (hl : l.length ≤ maxLen) (hx : ∀ x ∈ l, x < 18446744073709551616)
    (h1 : ∀ i, i < l.length → w.cell? ⟨b, off + i, none⟩ = some (.int .u64 ((l.getD i 0 : Nat) : Int))) :
    Calls Tryz.prog 96 #[.slice (some ⟨b, off, none⟩) l.length c] w fun e w' => e = .returned (.int .i64 (B.wd l)) ∧ w = w' := by
  unfold maxLen at hl
  have H1 := Lib.hid h1
  have HX := Lib.hid hx
  clear h1 hx
  go_enter Tryz.func96, Tryz.ntmps96
  go_wp2_with fail
  go_loop [3, 4] (fun v i => ∃ k : Nat, k ≤ l.length ∧ i = .int .i64 k ∧ v = .int .i64 (B.wd (l.take k))) (fun _ i => l.length - (intOf i).toNat)
  case atStart => exact ⟨0, by omega, rfl, rfl⟩
  case round =>
    obtain ⟨k, hk, rfl, rfl⟩ := hrel
    by_cases hlt : k < l.length
    · have hcell := H1.out k hlt
      have hxk := HX.out _ (getD_mem l k hlt)
      have HW := Lib.hid (show B.wd (l.take (k + 1)) = max (B.wd (l.take k)) (B.bl (l.getD k 0)) by
        rw [List.take_succ_eq_append_getElem hlt, B.wd_snoc]; simp [List.getD, List.getElem?_eq_getElem hlt])
      have hm : B.wd (l.take k) ≤ 64 := B.wd_64 _ (fun x h => HX.out x (List.mem_of_mem_take h))
      have hbl : B.bl (l.getD k 0) ≤ 64 := (B.bl_le _ 64).2 hxk
      have hft := fun j w h => fits_any (l.getD k 0) j w hxk h
      generalize l.getD k 0 = x at *
      generalize B.wd (l.take k) = m at *
      have HFT := Lib.hid hft
      clear hft
      go_wp2_with fail
      go_loop [3] (fun v => ∃ j : Nat, m ≤ j ∧ j ≤ 64 ∧ (j ≤ m ∨ j ≤ B.bl x) ∧ v = .int .i64 j) (fun v => 65 - (intOf v).toNat)
      case atStart => exact ⟨m, by omega, hm, Or.inl (by omega), rfl⟩
      case round =>
        obtain ⟨j, hj1, hj2, hj3, rfl⟩ := hrel
        by_cases hf : B.bl x ≤ j
        · have hd : decide (B.bl x ≤ j) = true := by simp; omega
          have hft := fun w => HFT.out j w hj2
          rw [hd] at hft
          have HF2 := Lib.hid hft
          clear hft hd
          go_wp2_with fail
          refine (HF2.out _).mono ?_
          rintro e w1 ⟨rfl, rfl⟩
          go_wp2_with fail
          refine ⟨⟨k + 1, by omega, by go_num, ?_⟩, by simp [intOf]; omega⟩
          rw [HW.out]; congr 2; omega
        · have hd : decide (B.bl x ≤ j) = false := by simp; omega
          have hft := fun w => HFT.out j w hj2
          rw [hd] at hft
          have HF2 := Lib.hid hft
          clear hft hd
          go_wp2_with fail
          refine (HF2.out _).mono ?_
          rintro e w1 ⟨rfl, rfl⟩
          go_wp2_with fail
          exact ⟨⟨j + 1, by omega, by omega, Or.inr (by omega), by go_num⟩, by simp [intOf]; omega⟩
    · obtain rfl : k = l.length := by omega
      rw [List.take_length]
      go_wp2_with fail
      go_ret
      exact ⟨rfl, rfl⟩
set_option maxHeartbeats 400000 in
theorem rwidth_nil (a : Option Addr) (c : Nat) (w : World) :
    Calls Tryz.prog 96 #[.slice a 0 c] w fun e w' => e = .returned (.int .i64 0) ∧ w = w' := by
  go_enter Tryz.func96, Tryz.ntmps96
  go_wp2_with fail
  refine wp_loop_rounds 1 ?_
  rw [rounds_succ]
  go_wp2_with fail
  go_ret
  exact ⟨rfl, rfl⟩
theorem rwidth_any (a : Option Addr) (c : Nat) (l : List Nat) (w : World) (B' : Nat) (hl : l.length ≤ maxLen) (hx : ∀ x ∈ l, x < 18446744073709551616) (hu : Nums w B' a l) :
    Calls Tryz.prog 96 #[.slice a l.length c] w fun e w' => e = .returned (.int .i64 (B.wd l)) ∧ w = w' := by
  by_cases hn : l = []
  · subst hn; exact rwidth_nil a c w
  · obtain ⟨b, off, rfl, hb, hc⟩ := hu hn
    exact rwidth_some b off c l w hl hx hc
set_option maxHeartbeats 400000 in
theorem bitOf_any (b off c : Nat) (l : List Nat) (n p : Nat) (w : World) (hl : l.length ≤ 64) (hn : 1 ≤ n) (hn2 : n ≤ 64) (hp : p < l.length * n) (hx : ∀ x ∈ l, x < 18446744073709551616)
    (h1 : ∀ i, i < l.length → w.cell? ⟨b, off + i, none⟩ = some (.int .u64 ((l.getD i 0 : Nat) : Int))) :
    Calls Tryz.prog 67 #[.slice (some ⟨b, off, none⟩) l.length c, .int .i64 n, .int .i64 p] w fun e w' => e = .returned (.int .i64 ((l.getD (p / n) 0 / 2 ^ (p % n) % 2 : Nat) : Int)) ∧ w = w' := by
  have hi : p / n < l.length := by rw [Nat.div_lt_iff_lt_mul (by omega)]; exact hp
  have hcell := h1 _ hi
  have hxk := hx _ (getD_mem l _ hi)
  have hpb : p < 4096 := Nat.lt_of_lt_of_le hp (Nat.mul_le_mul hl hn2)
  have hpI : ((p : Int) / (n : Int)) = ((p / n : Nat) : Int) := by simp
  have hpM : ((p : Int) % (n : Int)) = ((p % n : Nat) : Int) := by simp
  have hq : p % n < n := Nat.mod_lt _ (by omega)
  clear h1 hx hp
  generalize p / n = q at *
  generalize l.getD q 0 = x at *
  generalize p % n = r at *
  generalize hres : x / 2 ^ r % 2 = res
  have HRES := Lib.hid hres
  clear hres
  go_enter Tryz.func67, Tryz.ntmps67
  go_wp2_with fail
  go_loop [7, 8] (fun v i => ∃ j : Nat, j ≤ r ∧ i = .int .i64 j ∧ v = .int .u64 ((x / 2 ^ j : Nat) : Int)) (fun _ i => r - (intOf i).toNat)
  case atStart => exact ⟨0, by omega, rfl, by simp⟩
  case round =>
    obtain ⟨j, hj, rfl, rfl⟩ := hrel
    have hle : x / 2 ^ j ≤ x := Nat.div_le_self _ _
    by_cases hlt : j < r
    · have HD := Lib.hid (show x / 2 ^ (j + 1) = x / 2 ^ j / 2 by rw [Nat.pow_succ, Nat.div_div_eq_div_mul])
      generalize x / 2 ^ j = y at *
      go_wp2_with fail
      exact ⟨⟨j + 1, by omega, by go_num, by rw [HD.out]; simp⟩, by simp [intOf]; omega⟩
    · obtain rfl : j = r := by omega
      generalize x / 2 ^ j = y at *
      go_wp2_with fail
      go_ret
      refine ⟨?_, rfl⟩
      show Ending.returned (Value.int .i64 _) = _
      congr 2
      rw [← HRES.out]; simp
theorem le_snoc (k v : Nat) : B.le (k + 1) v = B.le k v ++ [UInt8.ofNat (v / 256 ^ k)] := by
  induction k generalizing v with
  | zero => simp [B.le]
  | succ k ih =>
    rw [B.le, ih]
    conv => rhs; rw [B.le]
    rw [List.cons_append, Nat.div_div_eq_div_mul, Nat.pow_succ, Nat.mul_comm 256]
theorem bits_zero (X : Nat) : X % 2 ^ 0 = 0 := by simp [Nat.mod_one]
theorem byte_of (X q : Nat) : X / 2 ^ (8 * q + 8 - 8) % 2 ^ 8 = X / 256 ^ q % 256 := by rw [Nat.add_sub_cancel, ← B.two8]
theorem bits_step (X q t : Nat) (ht : t < 8) : X / 2 ^ (8 * q + 8 - (t + 1)) % 2 ^ (t + 1) = 2 * (X / 2 ^ (8 * q + 8 - t) % 2 ^ t) + X / 2 ^ (8 * q + (7 - t)) % 2 := by
  have e1 : 8 * q + 8 - (t + 1) = 8 * q + (7 - t) := by omega
  have e2 : 8 * q + 8 - t = 8 * q + (7 - t) + 1 := by omega
  rw [e1, e2, show 2 ^ (8 * q + (7 - t) + 1) = 2 ^ (8 * q + (7 - t)) * 2 from Nat.pow_succ 2 _, ← Nat.div_div_eq_div_mul]
  generalize X / 2 ^ (8 * q + (7 - t)) = Y
  rw [Nat.pow_succ, Nat.mul_comm (2 ^ t), Nat.mod_mul]; omega
set_option maxHeartbeats 4000000 in
set_option maxRecDepth 100000 in
theorem packed_some (b off c : Nat) (l : List Nat) (n : Nat) (w : World) (hl : l.length ≤ 64) (hn : 1 ≤ n) (hn2 : n ≤ 64) (hf : ∀ x ∈ l, x < 2 ^ n) (hx : ∀ x ∈ l, x < 18446744073709551616) (hb : b < w.heap.size)
    (h1 : ∀ i, i < l.length → w.cell? ⟨b, off + i, none⟩ = some (.int .u64 ((l.getD i 0 : Nat) : Int))) :
    Calls Tryz.prog 35 #[.slice (some ⟨b, off, none⟩) l.length c, .int .i64 n] w (TextPost (B.le (B.sz (l.length * n)) (B.pk n l)) w) := by
  have hlt := B.pk_lt n l hf
  rw [Nat.mul_comm] at hlt
  have hbit := fun p hp => B.pk_bit n l hf p (by omega) hp
  generalize B.pk n l = X at *
  have hmul := Nat.mul_le_mul hl hn2
  have hmulI : ((l.length : Int) * (n : Int)) = ((l.length * n : Nat) : Int) := by simp
  have hbo := fun p w hp h1 => bitOf_any b off c l n p w hl hn hn2 hp hx h1
  generalize hM : l.length * n = M at *
  have HLT := Lib.hid hlt
  have HBIT := Lib.hid hbit
  have HBO := Lib.hid hbo
  have H1 := Lib.hid h1
  clear hlt hbit hbo h1 hx hf hM
  go_enter Tryz.func35, Tryz.ntmps35
  go_wp2_with fail
  go_loopw [5, 7, 8, 9] (fun s i _ _ wr => ∃ q : Nat, q ≤ B.sz M ∧ i = .int .i64 ((8 * q : Nat) : Int) ∧ s = .string (str (B.le q X)) ∧ Below w.heap.size w wr) (fun _ i _ _ _ => M + 8 - (intOf i).toNat)
  case atStart => exact ⟨0, by omega, rfl, rfl, Below.refl _ _⟩
  case round =>
    obtain ⟨q, hq, rfl, rfl, hbw⟩ := hrel
    have hsz : B.sz M ≤ 512 ∧ 8 * B.sz M < M + 8 ∧ M ≤ 8 * B.sz M := by unfold B.sz; omega
    by_cases hlt : 8 * q < M
    · have hts : (str (B.le q X)).size ≤ 512 := by rw [str_size, B.le_length]; omega
      obtain ⟨t, ht⟩ : ∃ t, t = str (B.le q X) := ⟨_, rfl⟩
      rw [← ht] at hts ⊢
      have HT := Lib.hid ht
      clear ht
      obtain ⟨f, hf⟩ : ∃ f, f = 8 * q := ⟨_, rfl⟩
      rw [← hf] at hlt ⊢
      have HF := Lib.hid hf
      have hfb : f ≤ 4096 := by omega
      clear hf
      go_wp2_with fail
      go_loop [8, 9] (fun v k => ∃ s : Nat, s ≤ 8 ∧ k = .int .i64 (7 - (s : Int)) ∧ v = .int .i64 ((X / 2 ^ (8 * q + 8 - s) % 2 ^ s : Nat) : Int)) (fun _ k => (intOf k + 1).toNat)
      case atStart => exact ⟨0, by omega, rfl, by rw [bits_zero]; rfl⟩
      case round =>
        obtain ⟨s, hs, rfl, rfl⟩ := hrel
        by_cases hs8 : s < 8
        · have hst := bits_step X q s hs8
          have hvb : X / 2 ^ (8 * q + 8 - s) % 2 ^ s < 256 := Nat.lt_of_lt_of_le (Nat.mod_lt _ (B.pos2 s)) (by have : 2 ^ s ≤ 2 ^ 8 := Nat.pow_le_pow_right (by omega) hs; omega)
          have hkI : ((f : Int) + (7 - (s : Int))) = ((f + (7 - s) : Nat) : Int) := by omega
          rw [show 8 * q + (7 - s) = f + (7 - s) by rw [HF.out]] at hst
          generalize X / 2 ^ (8 * q + 8 - s) % 2 ^ s = v at *
          have HST := Lib.hid hst
          clear hst
          generalize hp : f + (7 - s) = p at *
          have hpb : p ≤ 8192 := by omega
          clear hp
          by_cases hpM : p < M
          · have hbo := fun w h => HBO.out p w hpM h
            rw [← HBIT.out p hpM] at hbo
            have hb2 : X / 2 ^ p % 2 < 2 := by omega
            generalize X / 2 ^ p % 2 = bt at *
            have hcl := fun i hi => (hbw.cell (p := ⟨b, off + i, none⟩) hb).trans (H1.out i hi)
            have HB2 := Lib.hid (hbo wr hcl)
            clear hbo hcl
            go_wp2_with fail
            refine (HB2.out).mono ?_
            rintro e w1 ⟨rfl, rfl⟩
            go_wp2_with fail
            refine ⟨⟨s + 1, by omega, by congr 1; omega, ?_⟩, by simp [intOf]; omega⟩
            rw [HST.out]; congr 1; omega
          · have HZ := Lib.hid (show X / 2 ^ p % 2 = 0 by
              rw [Nat.div_eq_of_lt (Nat.lt_of_lt_of_le HLT.out (Nat.pow_le_pow_right (by omega) (by omega)))])
            go_wp2_with fail
            refine ⟨⟨s + 1, by omega, by congr 1; omega, ?_⟩, by simp [intOf]; omega⟩
            rw [HST.out, HZ.out]; congr 1; omega
        · obtain rfl : s = 8 := by omega
          have hbyte := byte_of X q
          generalize X / 2 ^ (8 * q + 8 - 8) % 2 ^ 8 = y at *
          have hy : y < 256 := by omega
          have HSN := Lib.hid (show B.le (q + 1) X = B.le q X ++ [UInt8.ofNat y] by
            rw [le_snoc]; congr 2; apply UInt8.toNat_inj.mp; simp only [UInt8.toNat_ofNat']; rw [hbyte]; omega)
          clear hbyte
          have hs1 : (str [UInt8.ofNat y]).size = 1 := rfl
          go_wp2_with fail
          refine (one_any y _ (by omega)).mono ?_
          rintro e w1 ⟨rfl, hb1⟩
          go_wp2_with fail
          refine ⟨⟨q + 1, by have := HF.out; omega, ?_, ?_, below_then hbw hb1⟩, by simp [intOf]; omega⟩
          · rw [HF.out]; congr 1 <;> omega
          · rw [HT.out, str_append, HSN.out]
    · obtain rfl : q = B.sz M := by unfold B.sz at hq ⊢; omega
      go_wp2_with fail
      go_ret
      exact ⟨rfl, hbw⟩
end Go.Proofs.YtcachhnhncodoaaGreat
namespace Go.Proofs.YtcachhnhncodoaaGreat
open Go.RowKit
set_option linter.unusedVariables false
set_option maxHeartbeats 400000 in
theorem packed_zero (a : Option Addr) (c k n : Nat) (w : World) (hk : k ≤ 64) (hn : n ≤ 64) (h : k * n = 0) :
    Calls Tryz.prog 35 #[.slice a k c, .int .i64 n] w (TextPost [] w) := by
  have hmulI : ((k : Int) * (n : Int)) = ((k * n : Nat) : Int) := by simp
  rw [h] at hmulI
  clear h
  go_enter Tryz.func35, Tryz.ntmps35
  go_wp2_with fail
  refine wp_loop_rounds 1 ?_
  rw [rounds_succ]
  go_wp2_with fail
  go_ret
  exact ⟨rfl, Below.refl _ _⟩
theorem packed_any (a : Option Addr) (c : Nat) (l : List Nat) (n : Nat) (w : World) (hl : l.length ≤ 64) (hn2 : n ≤ 64) (hf : ∀ x ∈ l, x < 2 ^ n) (hx : ∀ x ∈ l, x < 18446744073709551616) (hu : Nums w w.heap.size a l) :
    Calls Tryz.prog 35 #[.slice a l.length c, .int .i64 n] w (TextPost (B.le (B.sz (l.length * n)) (B.pk n l)) w) := by
  by_cases h : l.length * n = 0
  · rw [h]; exact packed_zero a c _ n w hl hn2 h
  · have hn : 1 ≤ n := by
      rcases Nat.eq_zero_or_pos n with h0 | h0
      · rw [h0] at h; simp at h
      · exact h0
    have hne : l ≠ [] := by intro e; rw [e] at h; simp at h
    obtain ⟨b, off, rfl, hb, hc⟩ := hu hne
    exact packed_some b off c l n w hl hn hn2 hf hx hb hc
end Go.Proofs.YtcachhnhncodoaaGreat
namespace Go.Proofs.YtcachhnhncodoaaGreat.V
def sz (n : Nat) : Nat :=
  if n < 128 then 1 else if n < 16384 then 2 else if n < 2097152 then 3 else if n < 268435456 then 4
  else if n < 34359738368 then 5 else if n < 4398046511104 then 6 else if n < 562949953421312 then 7
  else if n < 72057594037927936 then 8 else 9
def ld (k : Nat) : Nat := 256 - 2 ^ (9 - k)
def kl (c : Nat) : Nat :=
  if c < 128 then 1 else if c < 192 then 2 else if c < 224 then 3 else if c < 240 then 4
  else if c < 248 then 5 else if c < 252 then 6 else if c < 254 then 7 else if c < 255 then 8 else 9
def be : Nat → Nat → List UInt8
  | 0, _ => []
  | k + 1, v => UInt8.ofNat (v / 256 ^ k) :: be k v
def val : List UInt8 → Nat
  | [] => 0
  | c :: t => c.toNat * 256 ^ t.length + val t
def enc (n : Nat) : List UInt8 := be (sz n) (n + ld (sz n) * 256 ^ (sz n - 1))
theorem sz_spec (n : Nat) : (sz n = 1 ∧ n < 128) ∨ (sz n = 2 ∧ 128 ≤ n ∧ n < 16384) ∨ (sz n = 3 ∧ 16384 ≤ n ∧ n < 2097152) ∨ (sz n = 4 ∧ 2097152 ≤ n ∧ n < 268435456) ∨
    (sz n = 5 ∧ 268435456 ≤ n ∧ n < 34359738368) ∨ (sz n = 6 ∧ 34359738368 ≤ n ∧ n < 4398046511104) ∨ (sz n = 7 ∧ 4398046511104 ≤ n ∧ n < 562949953421312) ∨
    (sz n = 8 ∧ 562949953421312 ≤ n ∧ n < 72057594037927936) ∨ (sz n = 9 ∧ 72057594037927936 ≤ n) := by unfold sz; (repeat' split) <;> omega
theorem kl_spec (c : Nat) (hc : c < 256) : (kl c = 1 ∧ c < 128) ∨ (kl c = 2 ∧ 128 ≤ c ∧ c < 192) ∨ (kl c = 3 ∧ 192 ≤ c ∧ c < 224) ∨ (kl c = 4 ∧ 224 ≤ c ∧ c < 240) ∨
    (kl c = 5 ∧ 240 ≤ c ∧ c < 248) ∨ (kl c = 6 ∧ 248 ≤ c ∧ c < 252) ∨ (kl c = 7 ∧ 252 ≤ c ∧ c < 254) ∨ (kl c = 8 ∧ c = 254) ∨ (kl c = 9 ∧ c = 255) := by unfold kl; (repeat' split) <;> omega
theorem sz_ge (n : Nat) : 1 ≤ sz n := by have := sz_spec n; omega
theorem sz_le (n : Nat) : sz n ≤ 9 := by have := sz_spec n; omega
theorem be_length (k v : Nat) : (be k v).length = k := by
  induction k with
  | zero => rfl
  | succ k ih => simp [be, ih]
theorem enc_length (n : Nat) : (enc n).length = sz n := be_length _ _
theorem val_lt (l : List UInt8) : val l < 256 ^ l.length := by
  induction l with
  | nil => simp [val]
  | cons c t ih =>
    have hc : c.toNat < 256 := c.toNat_lt
    simp only [val, List.length_cons, Nat.pow_succ]
    have : c.toNat * 256 ^ t.length ≤ 255 * 256 ^ t.length := Nat.mul_le_mul_right _ (by omega)
    omega
theorem be_congr (k u v : Nat) (h : u % 256 ^ k = v % 256 ^ k) : be k u = be k v := by
  induction k with
  | zero => rfl
  | succ k ih =>
    have h1 : u % 256 ^ k = v % 256 ^ k := by
      have a1 := Nat.mod_mod_of_dvd u (Nat.pow_dvd_pow 256 (Nat.le_succ k))
      have a2 := Nat.mod_mod_of_dvd v (Nat.pow_dvd_pow 256 (Nat.le_succ k))
      rw [← a1, ← a2, h]
    simp only [be]
    rw [ih h1]
    congr 1
    apply UInt8.toNat_inj.mp
    have e1 : u / 256 ^ k % 256 = u % 256 ^ (k + 1) / 256 ^ k := by
      rw [Nat.pow_succ, Nat.mod_mul, Nat.add_mul_div_left _ _ (Nat.pow_pos (by omega)), Nat.div_eq_of_lt (Nat.mod_lt _ (Nat.pow_pos (by omega)))]; omega
    have e2 : v / 256 ^ k % 256 = v % 256 ^ (k + 1) / 256 ^ k := by
      rw [Nat.pow_succ, Nat.mod_mul, Nat.add_mul_div_left _ _ (Nat.pow_pos (by omega)), Nat.div_eq_of_lt (Nat.mod_lt _ (Nat.pow_pos (by omega)))]; omega
    simp only [UInt8.toNat_ofNat']
    show u / 256 ^ k % 256 = v / 256 ^ k % 256
    rw [e1, e2, h]
theorem val_be (k v : Nat) : val (be k v) = v % 256 ^ k := by
  induction k with
  | zero => simp [be, val, Nat.mod_one]
  | succ k ih =>
    simp only [be, val, be_length, ih, UInt8.toNat_ofNat']
    show v / 256 ^ k % 256 * 256 ^ k + v % 256 ^ k = _
    rw [Nat.pow_succ, Nat.mod_mul, Nat.mul_comm (256 ^ k)]; omega
theorem be_val (l : List UInt8) : be l.length (val l) = l := by
  induction l with
  | nil => rfl
  | cons c t ih =>
    have hp : 0 < 256 ^ t.length := Nat.pow_pos (by omega)
    have hv := val_lt t
    simp only [List.length_cons, be, val]
    congr 1
    · apply UInt8.toNat_inj.mp
      rw [UInt8.toNat_ofNat', Nat.mul_comm, Nat.mul_add_div hp, Nat.div_eq_of_lt hv]
      have := c.toNat_lt
      omega
    · rw [be_congr t.length (c.toNat * 256 ^ t.length + val t) (val t) (by rw [Nat.mul_comm, Nat.mul_add_mod])]
      exact ih
theorem val_snoc (l : List UInt8) (c : UInt8) : val (l ++ [c]) = val l * 256 + c.toNat := by
  induction l with
  | nil => simp [val]
  | cons a t ih =>
    simp only [List.cons_append, val, ih, List.length_append, List.length_cons, List.length_nil, Nat.pow_succ, Nat.add_mul, Nat.zero_add, Nat.mul_assoc]
    omega
theorem be_snoc (k v : Nat) : be (k + 1) v = be k (v / 256) ++ [UInt8.ofNat v] := by
  induction k with
  | zero => simp [be]
  | succ k ih =>
    rw [be, ih]
    conv => rhs; rw [be]
    rw [List.cons_append, Nat.div_div_eq_div_mul, Nat.pow_succ, Nat.mul_comm (256 ^ k)]
theorem sz_cases (n : Nat) (hn : n < 18446744073709551616) :
    n + ld (sz n) * 256 ^ (sz n - 1) < 256 ^ sz n ∧ kl ((n + ld (sz n) * 256 ^ (sz n - 1)) / 256 ^ (sz n - 1)) = sz n := by
  rcases sz_spec n with ⟨h, h1⟩ | ⟨h, h1, h2⟩ | ⟨h, h1, h2⟩ | ⟨h, h1, h2⟩ | ⟨h, h1, h2⟩ | ⟨h, h1, h2⟩ | ⟨h, h1, h2⟩ | ⟨h, h1, h2⟩ | ⟨h, h1⟩
  all_goals
    rw [h]
    simp only [ld, Nat.reduceSub, Nat.reducePow, Nat.reduceMul]
    refine ⟨by omega, ?_⟩
    generalize hq : (_ / _ : Nat) = q
    have := kl_spec q (by omega)
    omega
theorem enc_head (n : Nat) (hn : n < 18446744073709551616) : ∃ c t, enc n = c :: t ∧ kl c.toNat = sz n ∧ c.toNat = (n + ld (sz n) * 256 ^ (sz n - 1)) / 256 ^ (sz n - 1) := by
  obtain ⟨h1, h2⟩ := sz_cases n hn
  have hg := sz_ge n
  unfold enc
  generalize sz n = k at *
  obtain ⟨j, rfl⟩ : ∃ j, k = j + 1 := ⟨k - 1, by omega⟩
  simp only [Nat.add_sub_cancel] at *
  have hlt : (n + ld (j + 1) * 256 ^ j) / 256 ^ j < 256 := by
    rw [Nat.div_lt_iff_lt_mul (Nat.pow_pos (by omega))]; rw [Nat.pow_succ] at h1; omega
  have e : (UInt8.ofNat ((n + ld (j + 1) * 256 ^ j) / 256 ^ j)).toNat = (n + ld (j + 1) * 256 ^ j) / 256 ^ j := by
    rw [UInt8.toNat_ofNat']; exact Nat.mod_eq_of_lt hlt
  exact ⟨_, _, rfl, by rw [e]; exact h2, e⟩
theorem val_enc (n : Nat) (hn : n < 18446744073709551616) : val (enc n) = n + ld (sz n) * 256 ^ (sz n - 1) := by
  unfold enc; rw [val_be]; exact Nat.mod_eq_of_lt (sz_cases n hn).1
def rd (l : List UInt8) : Nat × Nat × Nat :=
  match l with
  | [] => (0, 0, 5)
  | c :: _ =>
    if l.length < kl c.toNat then (0, 0, 5)
    else if sz (val (l.take (kl c.toNat)) - ld (kl c.toNat) * 256 ^ (kl c.toNat - 1)) < kl c.toNat then (0, 0, 1)
    else (val (l.take (kl c.toNat)) - ld (kl c.toNat) * 256 ^ (kl c.toNat - 1), kl c.toNat, 0)
theorem rd_enc (n : Nat) (hn : n < 18446744073709551616) (t : List UInt8) : rd (enc n ++ t) = (n, sz n, 0) := by
  obtain ⟨c, u, he, hk, _⟩ := enc_head n hn
  have hl := enc_length n
  have hv := val_enc n hn
  rw [he] at hl hv
  have ht : (c :: (u ++ t)).take (sz n) = c :: u := by
    rw [← List.cons_append, List.take_append_of_le_length (by omega), List.take_of_length_le (by omega)]
  rw [he, List.cons_append]
  simp only [rd, hk, ht, hv, Nat.add_sub_cancel]
  rw [if_neg (by simp only [List.length_cons, List.length_append] at hl ⊢; omega), if_neg (by omega)]
theorem kl_bounds (c : Nat) (hc : c < 256) : 1 ≤ kl c ∧ kl c ≤ 9 ∧ ld (kl c) ≤ c ∧ (c - ld (kl c) + 1) * 256 ^ (kl c - 1) ≤ 18446744073709551616 ∧
    (∀ n, n < (c - ld (kl c) + 1) * 256 ^ (kl c - 1) → sz n ≤ kl c) := by
  rcases kl_spec c hc with ⟨h, h1⟩ | ⟨h, h1, h2⟩ | ⟨h, h1, h2⟩ | ⟨h, h1, h2⟩ | ⟨h, h1, h2⟩ | ⟨h, h1, h2⟩ | ⟨h, h1, h2⟩ | ⟨h, h1⟩ | ⟨h, h1⟩
  all_goals
    rw [h]
    simp only [ld, Nat.reduceSub, Nat.reducePow]
    refine ⟨by omega, by omega, by omega, by omega, ?_⟩
    intro n hn
    have := sz_spec n
    omega
theorem rd_facts (c : UInt8) (t : List UInt8) (h : kl c.toNat ≤ (c :: t).length) :
    ld (kl c.toNat) * 256 ^ (kl c.toNat - 1) ≤ val ((c :: t).take (kl c.toNat)) ∧
    val ((c :: t).take (kl c.toNat)) - ld (kl c.toNat) * 256 ^ (kl c.toNat - 1) = (c.toNat - ld (kl c.toNat)) * 256 ^ (kl c.toNat - 1) + val (t.take (kl c.toNat - 1)) ∧
    val ((c :: t).take (kl c.toNat)) - ld (kl c.toNat) * 256 ^ (kl c.toNat - 1) < 18446744073709551616 ∧
    sz (val ((c :: t).take (kl c.toNat)) - ld (kl c.toNat) * 256 ^ (kl c.toNat - 1)) ≤ kl c.toNat := by
  obtain ⟨h1, h9, hld, hb, hs⟩ := kl_bounds c.toNat c.toNat_lt
  generalize kl c.toNat = k at *
  obtain ⟨j, rfl⟩ : ∃ j, k = j + 1 := ⟨k - 1, by omega⟩
  simp only [Nat.add_sub_cancel, List.take_succ_cons, val, List.length_take, List.length_cons] at *
  have hm : min j t.length = j := by omega
  have hv := val_lt (t.take j)
  rw [List.length_take, hm] at hv
  rw [hm]
  have hmul : ld (j + 1) * 256 ^ j ≤ c.toNat * 256 ^ j := Nat.mul_le_mul_right _ hld
  have hsub : (c.toNat - ld (j + 1)) * 256 ^ j = c.toNat * 256 ^ j - ld (j + 1) * 256 ^ j := Nat.sub_mul _ _ _
  have hlt : c.toNat * 256 ^ j + val (t.take j) - ld (j + 1) * 256 ^ j < (c.toNat - ld (j + 1) + 1) * 256 ^ j := by
    rw [Nat.add_mul, Nat.one_mul, hsub]; omega
  exact ⟨by omega, by rw [hsub]; omega, by omega, hs _ hlt⟩
theorem rd_ok (l : List UInt8) (n k : Nat) (h : rd l = (n, k, 0)) : 1 ≤ k ∧ k ≤ l.length ∧ enc n = l.take k ∧ n < 18446744073709551616 ∧ k ≤ 9 ∧ sz n = k := by
  match l, h with
  | [], h => simp [rd] at h
  | c :: t, h =>
    simp only [rd] at h
    by_cases a : (c :: t).length < kl c.toNat
    · rw [if_pos a] at h; simp at h
    rw [if_neg a] at h
    obtain ⟨f1, f2, f3, f4⟩ := rd_facts c t (by omega)
    obtain ⟨h1, h9, hld, hb, hs⟩ := kl_bounds c.toNat c.toNat_lt
    by_cases b : sz (val ((c :: t).take (kl c.toNat)) - ld (kl c.toNat) * 256 ^ (kl c.toNat - 1)) < kl c.toNat
    · rw [if_pos b] at h; simp at h
    rw [if_neg b] at h
    simp only [Prod.mk.injEq] at h
    obtain ⟨hn, hk, _⟩ := h
    subst hk
    generalize kl c.toNat = k at *
    rw [hn] at f2 f3 f4 b
    have hs' : sz n = k := by omega
    refine ⟨h1, by omega, ?_, f3, h9, hs'⟩
    have hl : ((c :: t).take k).length = k := by rw [List.length_take]; omega
    have e : n + ld k * 256 ^ (k - 1) = val ((c :: t).take k) := by omega
    have := be_val ((c :: t).take k)
    rw [hl] at this
    unfold enc
    rw [hs', e]
    exact this
theorem rd_bad (l : List UInt8) : (rd l).2.2 = 0 ∨ (rd l = (0, 0, 5)) ∨ (rd l = (0, 0, 1)) := by
  match l with
  | [] => exact Or.inr (Or.inl rfl)
  | c :: t =>
    simp only [rd]
    split
    · exact Or.inr (Or.inl rfl)
    · split
      · exact Or.inr (Or.inr rfl)
      · exact Or.inl rfl
theorem rd_cut (n k : Nat) (hn : n < 18446744073709551616) (hk : k < sz n) : rd ((enc n).take k) = (0, 0, 5) := by
  obtain ⟨c, u, he, hc, _⟩ := enc_head n hn
  have hl := enc_length n
  rw [he] at hl ⊢
  match k with
  | 0 => rfl
  | k + 1 =>
    simp only [List.take_succ_cons, rd, hc]
    rw [if_pos (by simp only [List.length_cons, List.length_take] at hl ⊢; omega)]
theorem less_be (k u v : Nat) (s t : List UInt8) (hu : u < 256 ^ k) (hv : v < 256 ^ k) (h : u ≠ v) :
    Go.Op.bytesLess (be k u ++ s) (be k v ++ t) = decide (u < v) := by
  induction k generalizing u v with
  | zero => simp only [Nat.pow_zero] at hu hv; omega
  | succ k ih =>
    have hp : 0 < 256 ^ k := Nat.pow_pos (by omega)
    have hqu : u / 256 ^ k < 256 := by rw [Nat.div_lt_iff_lt_mul hp]; rw [Nat.pow_succ] at hu; omega
    have hqv : v / 256 ^ k < 256 := by rw [Nat.div_lt_iff_lt_mul hp]; rw [Nat.pow_succ] at hv; omega
    have eu : (UInt8.ofNat (u / 256 ^ k)).toNat = u / 256 ^ k := by rw [UInt8.toNat_ofNat']; exact Nat.mod_eq_of_lt hqu
    have ev : (UInt8.ofNat (v / 256 ^ k)).toNat = v / 256 ^ k := by rw [UInt8.toNat_ofNat']; exact Nat.mod_eq_of_lt hqv
    have du := Nat.div_add_mod u (256 ^ k)
    have dv := Nat.div_add_mod v (256 ^ k)
    have mu := Nat.mod_lt u hp
    have mv := Nat.mod_lt v hp
    simp only [be, List.cons_append, Go.Op.bytesLess]
    by_cases hq : u / 256 ^ k = v / 256 ^ k
    · have hm : u % 256 ^ k ≠ v % 256 ^ k := by intro e; apply h; rw [← du, ← dv, hq, e]
      rw [be_congr k u (u % 256 ^ k) (Nat.mod_mod _ _).symm, be_congr k v (v % 256 ^ k) (Nat.mod_mod _ _).symm, ih _ _ mu mv hm, hq]
      rw [hq] at du
      have : (u % 256 ^ k < v % 256 ^ k) ↔ u < v := by omega
      simp [this]
    · have e1 : (UInt8.ofNat (u / 256 ^ k) < UInt8.ofNat (v / 256 ^ k)) ↔ u / 256 ^ k < v / 256 ^ k := by
        rw [UInt8.lt_iff_toNat_lt, eu, ev]
      have e2 : (UInt8.ofNat (u / 256 ^ k) == UInt8.ofNat (v / 256 ^ k)) = false := by
        rw [beq_eq_false_iff_ne]; intro e; have := congrArg UInt8.toNat e; rw [eu, ev] at this; exact hq this
      have e3 : u / 256 ^ k < v / 256 ^ k ↔ u < v := by
        constructor
        · intro x
          have : 256 ^ k * (u / 256 ^ k + 1) ≤ 256 ^ k * (v / 256 ^ k) := Nat.mul_le_mul_left _ x
          rw [Nat.mul_add, Nat.mul_one] at this; omega
        · intro x
          rcases Nat.lt_or_ge (u / 256 ^ k) (v / 256 ^ k) with y | y
          · exact y
          · have : 256 ^ k * (v / 256 ^ k + 1) ≤ 256 ^ k * (u / 256 ^ k) := Nat.mul_le_mul_left _ (by omega)
            rw [Nat.mul_add, Nat.mul_one] at this; omega
      rw [e2]
      simp only [Bool.false_and, Bool.or_false]
      exact decide_eq_decide.mpr (e1.trans e3)
theorem sz_mono (a b : Nat) (h : sz a < sz b) : a < b := by
  rcases Nat.lt_or_ge a b with x | x
  · exact x
  · have h1 := sz_spec a
    have h2 := sz_spec b
    omega
theorem head_lt (a b : Nat) (ha : a < 18446744073709551616) (hb : b < 18446744073709551616) (h : sz a < sz b) (s t : List UInt8) :
    Go.Op.bytesLess (enc a ++ s) (enc b ++ t) = true ∧ Go.Op.bytesLess (enc b ++ t) (enc a ++ s) = false := by
  obtain ⟨c, u, he, hk, _⟩ := enc_head a ha
  obtain ⟨d, v, hf, hj, _⟩ := enc_head b hb
  rw [he, hf]
  have hcd : c.toNat < d.toNat := by
    rw [← hk, ← hj] at h
    rcases Nat.lt_or_ge c.toNat d.toNat with x | x
    · exact x
    · have h1 := kl_spec c.toNat c.toNat_lt
      have h2 := kl_spec d.toNat d.toNat_lt
      omega
  have h1 : c < d := UInt8.lt_iff_toNat_lt.mpr hcd
  have h2 : ¬ d < c := by rw [UInt8.lt_iff_toNat_lt]; omega
  have h3 : (d == c) = false := by rw [beq_eq_false_iff_ne]; intro e; rw [e] at hcd; omega
  simp [Go.Op.bytesLess, h1, h2, h3]
theorem less_self (l s t : List UInt8) : Go.Op.bytesLess (l ++ s) (l ++ t) = Go.Op.bytesLess s t := by
  induction l with
  | nil => rfl
  | cons c l ih =>
    have : ¬ c < c := by rw [UInt8.lt_iff_toNat_lt]; omega
    simp [Go.Op.bytesLess, this, ih]
theorem less_enc (a b : Nat) (ha : a < 18446744073709551616) (hb : b < 18446744073709551616) (s t : List UInt8) (h : a ≠ b) :
    Go.Op.bytesLess (enc a ++ s) (enc b ++ t) = decide (a < b) := by
  rcases Nat.lt_trichotomy (sz a) (sz b) with x | x | x
  · rw [(head_lt a b ha hb x s t).1]; simp [sz_mono a b x]
  · have h1 := (sz_cases a ha).1
    have h2 := (sz_cases b hb).1
    unfold enc
    rw [x] at h1 ⊢
    rw [less_be _ _ _ _ _ h1 h2 (by omega)]
    apply decide_eq_decide.mpr; omega
  · rw [(head_lt b a hb ha x t s).2]; have := sz_mono b a x; simp; omega
def encs (l : List Nat) : List UInt8 := l.flatMap enc
def lessN : List Nat → List Nat → Bool
  | _, [] => false
  | [], _ :: _ => true
  | a :: x, b :: y => if a = b then lessN x y else decide (a < b)
theorem less_encs (x y : List Nat) (hx : ∀ a ∈ x, a < 18446744073709551616) (hy : ∀ a ∈ y, a < 18446744073709551616) :
    Go.Op.bytesLess (encs x) (encs y) = lessN x y := by
  induction x generalizing y with
  | nil =>
    match y with
    | [] => rfl
    | b :: y =>
      obtain ⟨d, v, hf, _, _⟩ := enc_head b (hy b (by simp))
      simp [encs, hf, lessN, Go.Op.bytesLess]
  | cons a x ih =>
    match y with
    | [] =>
      obtain ⟨d, v, hf, _, _⟩ := enc_head a (hx a (by simp))
      simp [encs, hf, lessN, Go.Op.bytesLess]
    | b :: y =>
      simp only [encs, List.flatMap_cons, lessN]
      by_cases e : a = b
      · subst e
        rw [less_self, if_pos rfl]
        exact ih y (fun z hz => hx z (by simp [hz])) (fun z hz => hy z (by simp [hz]))
      · rw [less_enc a b (hx a (by simp)) (hy b (by simp)) _ _ e, if_neg e]
def rdF : Nat → List UInt8 → List Nat × Nat
  | 0, _ => ([], 0)
  | f + 1, l =>
    if l = [] then ([], 0)
    else if (rd l).2.2 = 0 then (if (rdF f (l.drop (rd l).2.1)).2 = 0 then ((rd l).1 :: (rdF f (l.drop (rd l).2.1)).1, 0) else ([], (rdF f (l.drop (rd l).2.1)).2))
    else ([], (rd l).2.2)
def rdl (l : List UInt8) : List Nat × Nat := rdF (l.length + 1) l
theorem encs_cons (x : Nat) (xs : List Nat) : encs (x :: xs) = enc x ++ encs xs := by simp [encs]
theorem encs_append (xs ys : List Nat) : encs (xs ++ ys) = encs xs ++ encs ys := by simp [encs]
theorem encs_one (x : Nat) : encs [x] = enc x := by simp [encs]
theorem enc_ne (x : Nat) : enc x ≠ [] := by
  intro h; have h1 := enc_length x; have := sz_ge x; rw [h] at h1; simp at h1; omega
theorem rdF_step (f x : Nat) (hx : x < 18446744073709551616) (l : List UInt8) :
    rdF (f + 1) (enc x ++ l) = if (rdF f l).2 = 0 then (x :: (rdF f l).1, 0) else ([], (rdF f l).2) := by
  have hr := rd_enc x hx l
  have hd : (enc x ++ l).drop (sz x) = l := by rw [← enc_length x, List.drop_left]
  simp only [rdF, hr, hd]
  rw [if_neg (by simp [enc_ne])]
  simp
theorem rdF_encs (xs : List Nat) (hx : ∀ x ∈ xs, x < 18446744073709551616) (rest : List UInt8) (f : Nat) (hf : (encs xs ++ rest).length < f) (hr : rest = [] ∨ (rd rest).2.2 ≠ 0) :
    rdF f (encs xs ++ rest) = if rest = [] then (xs, 0) else ([], (rd rest).2.2) := by
  induction xs generalizing f with
  | nil =>
    obtain ⟨g, rfl⟩ : ∃ g, f = g + 1 := ⟨f - 1, by omega⟩
    simp only [encs, List.flatMap_nil, List.nil_append, rdF]
    by_cases h : rest = []
    · rw [if_pos h, if_pos h]
    · rw [if_neg h, if_neg h, if_neg (by rcases hr with h' | h'; exact absurd h' h; exact h')]
  | cons x xs ih =>
    obtain ⟨g, rfl⟩ : ∃ g, f = g + 1 := ⟨f - 1, by omega⟩
    have hl := enc_length x
    have hs := sz_ge x
    rw [encs_cons, List.append_assoc] at hf ⊢
    rw [rdF_step _ _ (hx x (by simp)), ih (fun y hy => hx y (by simp [hy])) g (by rw [List.length_append] at hf; omega)]
    by_cases h : rest = []
    · rw [if_pos h, if_pos rfl, if_pos h]
    · have h2 : (rd rest).2.2 ≠ 0 := by rcases hr with h' | h'; exact absurd h' h; exact h'
      rw [if_neg h, if_neg h2, if_neg h]
theorem rdl_encs (xs : List Nat) (hx : ∀ x ∈ xs, x < 18446744073709551616) : rdl (encs xs) = (xs, 0) := by
  have := rdF_encs xs hx [] (_ + 1) (Nat.lt_succ_self _) (Or.inl rfl)
  rw [List.append_nil, if_pos rfl] at this
  exact this
theorem rdl_bad (xs : List Nat) (hx : ∀ x ∈ xs, x < 18446744073709551616) (rest : List UInt8) (h : rest ≠ []) (hr : (rd rest).2.2 ≠ 0) : rdl (encs xs ++ rest) = ([], (rd rest).2.2) := by
  have := rdF_encs xs hx rest (_ + 1) (Nat.lt_succ_self _) (Or.inr hr)
  rw [if_neg h] at this
  exact this
end Go.Proofs.YtcachhnhncodoaaGreat.V
namespace Go.Proofs.YtcachhnhncodoaaGreat.H
set_option linter.unusedVariables false
def rowF (x : Nat) : List Nat → Nat
  | [] => 0
  | y :: l => if y = x then rowF x l + 1 else 0
def row (l : List Nat) : Nat := rowF (l.headD 0) l
theorem rowF_le (x : Nat) (l : List Nat) : rowF x l ≤ l.length := by
  induction l with
  | nil => simp [rowF]
  | cons y l ih => simp only [rowF, List.length_cons]; split <;> omega
theorem row_le (l : List Nat) : row l ≤ l.length := rowF_le _ _
theorem rowF_step (x : Nat) (l : List Nat) (k : Nat) (hk : k ≤ rowF x l) (hl : k < l.length) :
    (l.getD k 0 = x → k + 1 ≤ rowF x l) ∧ (l.getD k 0 ≠ x → rowF x l = k) := by
  induction l generalizing k with
  | nil => simp at hl
  | cons y l ih =>
    cases k with
    | zero => constructor <;> intro h <;> simp only [List.getD_cons_zero] at h <;> simp [rowF, h]
    | succ k =>
      simp only [rowF] at hk ⊢
      by_cases h : y = x
      · rw [if_pos h] at hk ⊢
        have := ih k (by omega) (by simpa using hl)
        simp only [List.getD_cons_succ]
        exact ⟨fun e => by have := this.1 e; omega, fun e => by have := this.2 e; omega⟩
      · rw [if_neg h] at hk; omega
theorem row_pos (l : List Nat) (h : l ≠ []) : 1 ≤ row l := by
  cases l with
  | nil => exact absurd rfl h
  | cons y l => simp [row, rowF]
theorem rowF_take (x : Nat) (l : List Nat) : l.take (rowF x l) = List.replicate (rowF x l) x := by
  induction l with
  | nil => simp [rowF]
  | cons y l ih =>
    simp only [rowF]
    by_cases h : y = x
    · rw [if_pos h, List.take_succ_cons, List.replicate_succ, ih, h]
    · rw [if_neg h]; simp
theorem row_take (l : List Nat) : l.take (row l) = List.replicate (row l) (l.headD 0) := rowF_take _ _
def looseF : Nat → List Nat → Nat
  | 0, _ => 0
  | f + 1, l => if l = [] ∨ 8 ≤ row l then 0 else min 8 l.length + looseF f (l.drop 8)
def loose (l : List Nat) : Nat := looseF l.length l
theorem looseF_fuel (f : Nat) : ∀ (l : List Nat), l.length ≤ f → looseF f l = looseF l.length l := by
  have key : ∀ (f g : Nat) (l : List Nat), l.length ≤ f → l.length ≤ g → looseF f l = looseF g l := by
    intro f
    induction f with
    | zero =>
      intro g l h1 h2
      obtain rfl : l = [] := List.eq_nil_of_length_eq_zero (by omega)
      cases g <;> simp [looseF]
    | succ f ih =>
      intro g l h1 h2
      cases g with
      | zero =>
        obtain rfl : l = [] := List.eq_nil_of_length_eq_zero (by omega)
        simp [looseF]
      | succ g =>
        simp only [looseF]
        by_cases h : l = [] ∨ 8 ≤ row l
        · rw [if_pos h, if_pos h]
        · rw [if_neg h, if_neg h]
          have hl : 1 ≤ l.length := List.length_pos_iff.2 (fun e => h (Or.inl e))
          rw [ih g (l.drop 8) (by rw [List.length_drop]; omega) (by rw [List.length_drop]; omega)]
  exact fun l h => key f l.length l h (Nat.le_refl _)
theorem loose_eq (l : List Nat) : loose l = if l = [] ∨ 8 ≤ row l then 0 else min 8 l.length + loose (l.drop 8) := by
  unfold loose
  cases hl : l.length with
  | zero =>
    obtain rfl : l = [] := List.eq_nil_of_length_eq_zero hl
    simp [looseF]
  | succ n =>
    simp only [looseF]
    by_cases h : l = [] ∨ 8 ≤ row l
    · rw [if_pos h, if_pos h]
    · rw [if_neg h, if_neg h, looseF_fuel n _ (by rw [List.length_drop]; omega), hl]
theorem loose_stop (l : List Nat) (h : l = [] ∨ 8 ≤ row l) : loose l = 0 := by rw [loose_eq, if_pos h]
theorem loose_go (l : List Nat) (h : ¬ (l = [] ∨ 8 ≤ row l)) : loose l = min 8 l.length + loose (l.drop 8) := by rw [loose_eq, if_neg h]
theorem loose_le (l : List Nat) : loose l ≤ l.length := by
  suffices h : ∀ n (l : List Nat), l.length ≤ n → loose l ≤ l.length from h _ l (Nat.le_refl _)
  intro n
  induction n with
  | zero =>
    intro l hl
    obtain rfl : l = [] := List.eq_nil_of_length_eq_zero (by omega)
    rw [loose_stop _ (Or.inl rfl)]; omega
  | succ n ih =>
    intro l hl
    by_cases h : l = [] ∨ 8 ≤ row l
    · rw [loose_stop l h]; omega
    · rw [loose_go l h]
      have hp : 1 ≤ l.length := List.length_pos_iff.2 (fun e => h (Or.inl e))
      have := ih (l.drop 8) (by rw [List.length_drop]; omega)
      rw [List.length_drop] at this; omega
theorem loose_pos (l : List Nat) (h : ¬ (l = [] ∨ 8 ≤ row l)) : 1 ≤ loose l := by
  have hp : 1 ≤ l.length := List.length_pos_iff.2 (fun e => h (Or.inl e))
  rw [loose_go l h]; omega
theorem loose_full (l : List Nat) : loose l % 8 = 0 ∨ loose l = l.length := by
  suffices h : ∀ n (l : List Nat), l.length ≤ n → loose l % 8 = 0 ∨ loose l = l.length from h _ l (Nat.le_refl _)
  intro n
  induction n with
  | zero =>
    intro l hl
    obtain rfl : l = [] := List.eq_nil_of_length_eq_zero (by omega)
    rw [loose_stop _ (Or.inl rfl)]; simp
  | succ n ih =>
    intro l hl
    by_cases h : l = [] ∨ 8 ≤ row l
    · rw [loose_stop l h]; simp
    · rw [loose_go l h]
      have hp : 1 ≤ l.length := List.length_pos_iff.2 (fun e => h (Or.inl e))
      have := ih (l.drop 8) (by rw [List.length_drop]; omega)
      rw [List.length_drop] at this
      have h2 := loose_le (l.drop 8)
      rw [List.length_drop] at h2
      omega
inductive Part where
  | run (n m : Nat)
  | blk (l : List Nat)
deriving DecidableEq
def nb (n : Nat) : Nat := (n + 7) / 8
def pad (l : List Nat) : List Nat := l ++ List.replicate (8 * nb l.length - l.length) 0
theorem pad_length (l : List Nat) : (pad l).length = nb l.length * 8 := by simp [pad, nb]; omega
theorem pad_mem (l : List Nat) (w : Nat) (h : ∀ x ∈ l, x < 2 ^ w) : ∀ x ∈ pad l, x < 2 ^ w := by
  intro x hx
  rcases List.mem_append.1 hx with hx | hx
  · exact h x hx
  · rw [List.eq_of_mem_replicate hx]; exact B.pos2 w
def pkd (w : Nat) (l : List Nat) : List UInt8 := B.le (B.sz (l.length * w)) (B.pk w l)
theorem pkd_length (w : Nat) (l : List Nat) : (pkd w l).length = B.sz (l.length * w) := B.le_length _ _
def Part.nums : Part → List Nat
  | .run n m => List.replicate m n
  | .blk l => l
def Part.bytes (w : Nat) : Part → List UInt8
  | .run n m => V.enc (2 * m) ++ pkd w [n]
  | .blk l => V.enc (2 * nb l.length + 1) ++ pkd w (pad l)
def partsF : Nat → List Nat → List Part
  | 0, _ => []
  | f + 1, l => if l = [] then [] else if 8 ≤ row l then .run (l.headD 0) (row l) :: partsF f (l.drop (row l))
      else .blk (l.take (loose l)) :: partsF f (l.drop (loose l))
def parts (l : List Nat) : List Part := partsF l.length l
theorem partsF_fuel (f : Nat) : ∀ (g : Nat) (l : List Nat), l.length ≤ f → l.length ≤ g → partsF f l = partsF g l := by
  induction f with
  | zero =>
    intro g l h1 h2
    obtain rfl : l = [] := List.eq_nil_of_length_eq_zero (by omega)
    cases g <;> simp [partsF]
  | succ f ih =>
    intro g l h1 h2
    cases g with
    | zero =>
      obtain rfl : l = [] := List.eq_nil_of_length_eq_zero (by omega)
      simp [partsF]
    | succ g =>
      simp only [partsF]
      by_cases h0 : l = []
      · rw [if_pos h0, if_pos h0]
      rw [if_neg h0, if_neg h0]
      by_cases h : 8 ≤ row l
      · rw [if_pos h, if_pos h, ih g _ (by rw [List.length_drop]; omega) (by rw [List.length_drop]; omega)]
      · rw [if_neg h, if_neg h]
        have := loose_pos l (fun e => e.elim h0 h)
        rw [ih g _ (by rw [List.length_drop]; omega) (by rw [List.length_drop]; omega)]
theorem parts_nil : parts [] = [] := rfl
theorem parts_run (l : List Nat) (h0 : l ≠ []) (h : 8 ≤ row l) : parts l = .run (l.headD 0) (row l) :: parts (l.drop (row l)) := by
  unfold parts
  obtain ⟨n, hn⟩ : ∃ n, l.length = n + 1 := ⟨l.length - 1, by have := List.length_pos_iff.2 h0; omega⟩
  rw [hn]
  simp only [partsF]
  rw [if_neg h0, if_pos h, partsF_fuel n _ (l.drop (row l)) (by rw [List.length_drop]; omega) (Nat.le_refl _)]
theorem parts_blk (l : List Nat) (h0 : l ≠ []) (h : ¬ 8 ≤ row l) : parts l = .blk (l.take (loose l)) :: parts (l.drop (loose l)) := by
  unfold parts
  obtain ⟨n, hn⟩ : ∃ n, l.length = n + 1 := ⟨l.length - 1, by have := List.length_pos_iff.2 h0; omega⟩
  rw [hn]
  simp only [partsF]
  have := loose_pos l (fun e => e.elim h0 h)
  rw [if_neg h0, if_neg h, partsF_fuel n _ (l.drop (loose l)) (by rw [List.length_drop]; omega) (Nat.le_refl _)]
def bytes (w : Nat) (l : List Nat) : List UInt8 := (parts l).flatMap (Part.bytes w)
theorem bytes_nil (w : Nat) : bytes w [] = [] := rfl
theorem bytes_run (w : Nat) (l : List Nat) (h0 : l ≠ []) (h : 8 ≤ row l) : bytes w l = Part.bytes w (.run (l.headD 0) (row l)) ++ bytes w (l.drop (row l)) := by
  unfold bytes; rw [parts_run l h0 h]; rfl
theorem bytes_blk (w : Nat) (l : List Nat) (h0 : l ≠ []) (h : ¬ 8 ≤ row l) : bytes w l = Part.bytes w (.blk (l.take (loose l))) ++ bytes w (l.drop (loose l)) := by
  unfold bytes; rw [parts_blk l h0 h]; rfl
theorem parts_ind (P : List Nat → Prop) (h0 : P []) (hr : ∀ l, l ≠ [] → 8 ≤ row l → P (l.drop (row l)) → P l) (hb : ∀ l, l ≠ [] → ¬ 8 ≤ row l → P (l.drop (loose l)) → P l) : ∀ l, P l := by
  intro l
  suffices h : ∀ n (l : List Nat), l.length ≤ n → P l from h _ l (Nat.le_refl _)
  intro n
  induction n with
  | zero => intro l hl; obtain rfl : l = [] := List.eq_nil_of_length_eq_zero (by omega); exact h0
  | succ n ih =>
    intro l hl
    by_cases e : l = []
    · subst e; exact h0
    by_cases h : 8 ≤ row l
    · exact hr l e h (ih _ (by rw [List.length_drop]; omega))
    · have := loose_pos l (fun x => x.elim e h)
      exact hb l e h (ih _ (by rw [List.length_drop]; omega))
def held (h : Nat) : Nat := if h % 2 = 1 then h / 2 * 8 else 1
def fit (h left : Nat) : Nat := if h / 2 = 0 then 1 else if (if h % 2 = 1 then nb left else left) < h / 2 then 2 else 0
def body (d : List UInt8) (h left w e : Nat) : Nat × Part × Nat :=
  if B.leN d / 2 ^ (held h * w) ≠ 0 then (1, .blk [], 0)
  else if h % 2 = 0 then (0, .run ((B.dg w 1 (B.leN d)).headD 0) (h / 2), e)
  else if B.wd ((B.dg w (held h) (B.leN d)).drop (min left (held h))) ≠ 0 then (1, .blk [], 0)
  else (0, .blk ((B.dg w (held h) (B.leN d)).take (min left (held h))), e)
def firstL (s : List UInt8) (h fr left w : Nat) : Nat × Part × Nat :=
  if fit h left ≠ 0 then (fit h left, .blk [], 0)
  else if s.length < fr + B.sz (held h * w) then (5, .blk [], 0)
  else body ((s.drop fr).take (B.sz (held h * w))) h left w (fr + B.sz (held h * w))
def first (s : List UInt8) (left w : Nat) : Nat × Part × Nat :=
  if (V.rd s).2.2 ≠ 0 then ((V.rd s).2.2, .blk [], 0) else firstL s (V.rd s).1 (V.rd s).2.1 left w
def pre (xs : List Nat) (q : List Nat × Nat) : List Nat × Nat := if q.2 ≠ 0 then ([], q.2) else (xs ++ q.1, 0)
theorem pre_nil (q : List Nat × Nat) (h : q.2 ≠ 0 → q.1 = []) : pre [] q = q := by
  obtain ⟨a, b⟩ := q
  unfold pre
  by_cases e : b = 0
  · subst e; simp
  · rw [if_pos e]; simp only at h; rw [h e]
theorem pre_pre (xs ys : List Nat) (q : List Nat × Nat) : pre xs (pre ys q) = pre (xs ++ ys) q := by
  unfold pre
  by_cases e : q.2 = 0 <;> simp [e]
def readF : Nat → List UInt8 → Nat → Nat → List Nat × Nat
  | 0, _, _, _ => ([], 0)
  | f + 1, s, left, w => if left = 0 then ([], if s = [] then 0 else 1)
    else if (first s left w).1 ≠ 0 then ([], (first s left w).1)
    else pre (first s left w).2.1.nums (readF f (s.drop (first s left w).2.2) (left - (first s left w).2.1.nums.length) w)
def read (s : List UInt8) (many w : Nat) : List Nat × Nat := readF (many + 1) s many w
theorem first_grows (s : List UInt8) (left w : Nat) (hl : 1 ≤ left) (h : (first s left w).1 = 0) :
    1 ≤ (first s left w).2.1.nums.length ∧ (first s left w).2.1.nums.length ≤ left := by
  unfold first at h ⊢
  by_cases h1 : (V.rd s).2.2 = 0
  · rw [if_neg (by simp [h1])] at h ⊢
    generalize (V.rd s).1 = hd at *
    generalize (V.rd s).2.1 = fr at *
    unfold firstL at h ⊢
    by_cases h2 : fit hd left = 0
    · rw [if_neg (by simp [h2])] at h ⊢
      by_cases h3 : s.length < fr + B.sz (held hd * w)
      · rw [if_pos h3] at h; simp at h
      rw [if_neg h3] at h ⊢
      have hf : 1 ≤ hd / 2 ∧ (hd % 2 = 0 → hd / 2 ≤ left) := by
        unfold fit at h2
        by_cases a : hd / 2 = 0
        · rw [if_pos a] at h2; simp at h2
        rw [if_neg a] at h2
        refine ⟨by omega, fun e => ?_⟩
        by_cases b : (if hd % 2 = 1 then nb left else left) < hd / 2
        · rw [if_pos b] at h2; simp at h2
        · rw [if_neg (by omega)] at b; omega
      unfold body at h ⊢
      generalize (s.drop fr).take (B.sz (held hd * w)) = d at *
      by_cases h4 : B.leN d / 2 ^ (held hd * w) = 0
      · rw [if_neg (by simp [h4])] at h ⊢
        by_cases h5 : hd % 2 = 0
        · rw [if_pos h5] at h ⊢
          simp only [Part.nums, List.length_replicate]; exact ⟨hf.1, hf.2 h5⟩
        · rw [if_neg h5] at h ⊢
          by_cases h6 : B.wd ((B.dg w (held hd) (B.leN d)).drop (min left (held hd))) = 0
          · rw [if_neg (by simp [h6])] at h ⊢
            simp only [Part.nums, List.length_take, B.dg_length]
            have : 8 ≤ held hd := by unfold held; rw [if_pos (by omega)]; omega
            omega
          · rw [if_pos h6] at h; simp at h
      · rw [if_pos h4] at h; simp at h
    · rw [if_pos h2] at h; exact absurd h h2
  · rw [if_pos h1] at h; exact absurd h h1
theorem readF_fuel (f : Nat) : ∀ (g : Nat) (s : List UInt8) (left w : Nat), left < f → left < g → readF f s left w = readF g s left w := by
  induction f with
  | zero => intro g s left w h; omega
  | succ f ih =>
    intro g s left w h1 h2
    cases g with
    | zero => omega
    | succ g =>
      simp only [readF]
      by_cases h0 : left = 0
      · rw [if_pos h0, if_pos h0]
      rw [if_neg h0, if_neg h0]
      by_cases he : (first s left w).1 = 0
      · have := first_grows s left w (by omega) he
        rw [if_neg (by simp [he]), if_neg (by simp [he]), ih g _ _ w (by omega) (by omega)]
      · rw [if_pos he, if_pos he]
theorem read_zero (s : List UInt8) (w : Nat) : read s 0 w = ([], if s = [] then 0 else 1) := by simp [read, readF]
theorem read_bad (s : List UInt8) (left w : Nat) (hl : 1 ≤ left) (h : (first s left w).1 ≠ 0) : read s left w = ([], (first s left w).1) := by
  simp only [read, readF]
  rw [if_neg (by omega), if_pos h]
theorem read_step (s : List UInt8) (left w : Nat) (hl : 1 ≤ left) (h : (first s left w).1 = 0) :
    read s left w = pre (first s left w).2.1.nums (read (s.drop (first s left w).2.2) (left - (first s left w).2.1.nums.length) w) := by
  have hg := first_grows s left w hl h
  conv => lhs; simp only [read, readF]
  rw [if_neg (by omega), if_neg (by simp [h]), read, readF_fuel left _ _ _ w (by omega) (Nat.lt_succ_self _)]
theorem read_err (s : List UInt8) (left w : Nat) : (read s left w).2 ≠ 0 → (read s left w).1 = [] := by
  unfold read
  generalize left + 1 = f
  cases f with
  | zero => simp [readF]
  | succ f =>
    simp only [readF]
    by_cases h0 : left = 0
    · rw [if_pos h0]; simp
    rw [if_neg h0]
    by_cases he : (first s left w).1 = 0
    · rw [if_neg (by simp [he])]
      unfold pre
      split
      · simp
      · intro h; simp at h
    · rw [if_pos he]; simp
theorem read_length (s : List UInt8) (left w : Nat) (h : (read s left w).2 = 0) : (read s left w).1.length = left := by
  suffices H : ∀ n left s, left ≤ n → (read s left w).2 = 0 → (read s left w).1.length = left from H left left s (Nat.le_refl _) h
  clear h s left
  intro n
  induction n with
  | zero => intro left s hl _; obtain rfl : left = 0 := by omega
            simp [read_zero]
  | succ n ih =>
    intro left s hl h
    by_cases h0 : left = 0
    · subst h0; simp [read_zero]
    by_cases he : (first s left w).1 = 0
    · have hg := first_grows s left w (by omega) he
      rw [read_step s left w (by omega) he] at h ⊢
      have hi := ih (left - (first s left w).2.1.nums.length) (s.drop (first s left w).2.2) (by omega)
      generalize read (s.drop (first s left w).2.2) (left - (first s left w).2.1.nums.length) w = q at *
      unfold pre at h ⊢
      by_cases e : q.2 = 0
      · rw [if_neg (by simp [e])]
        simp only [List.length_append, hi e]; omega
      · rw [if_pos e] at h; exact absurd h e
    · rw [read_bad s left w (by omega) he] at h; exact absurd h he
end Go.Proofs.YtcachhnhncodoaaGreat.H
namespace Go.Proofs.YtcachhnhncodoaaGreat
open Go.RowKit
set_option linter.unusedVariables false
theorem nine {k : Nat} (h1 : 1 ≤ k) (h9 : k ≤ 9) : k = 1 ∨ k = 2 ∨ k = 3 ∨ k = 4 ∨ k = 5 ∨ k = 6 ∨ k = 7 ∨ k = 8 ∨ k = 9 := by omega
theorem lead_eq (k : Nat) (h1 : 1 ≤ k) (h9 : k ≤ 9) : (255 * 2 ^ (9 - k) % 256 : Int) = (V.ld k : Int) := by
  rcases nine h1 h9 with rfl | rfl | rfl | rfl | rfl | rfl | rfl | rfl | rfl <;> rfl
set_option maxHeartbeats 400000 in
theorem lead_any (k : Nat) (w : World) (h1 : 1 ≤ k) (h9 : k ≤ 9) :
    Calls Tryz.prog 71 #[.int .i64 k] w fun e w' => e = .returned (.int .u8 (V.ld k)) ∧ w = w' := by
  have H := Lib.hid (lead_eq k h1 h9)
  go_enter Tryz.func71, Tryz.ntmps71
  go_wp2
  go_ret
  exact ⟨by rw [← H.out]; rfl, rfl⟩
def SzRel (n k : Nat) : Prop := k = 0 ∨ 2 ^ (7 * k) ≤ n
theorem sz_at (n k : Nat) (hk : k < 8) (hr : SzRel n k) (h : ((n : Int) / 2 ^ (7 * (k + 1)) == 0) = true) : V.sz n = k + 1 := by
  have h2 : n / 2 ^ (7 * (k + 1)) = 0 := by
    have : ((n / 2 ^ (7 * (k + 1)) : Nat) : Int) = 0 := by simpa using h
    omega
  have h3 : n < 2 ^ (7 * (k + 1)) := by
    rcases Nat.div_eq_zero_iff.mp h2 with x | x
    · have := Nat.pow_pos (n := 7 * (k + 1)) (show 0 < 2 by omega); omega
    · exact x
  have hs := V.sz_spec n
  have : k = 0 ∨ k = 1 ∨ k = 2 ∨ k = 3 ∨ k = 4 ∨ k = 5 ∨ k = 6 ∨ k = 7 := by omega
  unfold SzRel at hr
  rcases this with rfl | rfl | rfl | rfl | rfl | rfl | rfl | rfl <;> simp only [Nat.reduceAdd, Nat.reduceMul, Nat.reducePow] at h3 hr <;> omega
theorem sz_on (n k : Nat) (hk : k < 8) (h : ((n : Int) / 2 ^ (7 * (k + 1)) == 0) = false) : SzRel n (k + 1) := by
  refine Or.inr ?_
  rcases Nat.lt_or_ge n (2 ^ (7 * (k + 1))) with x | x
  · have h2 : n / 2 ^ (7 * (k + 1)) = 0 := Nat.div_eq_of_lt x
    have : ((n / 2 ^ (7 * (k + 1)) : Nat) : Int) = 0 := by rw [h2]; rfl
    have h3 : ((n : Int) / 2 ^ (7 * (k + 1))) = 0 := by simpa using this
    rw [h3] at h; simp at h
  · exact x
theorem sz_end (n : Nat) (hr : SzRel n 8) : V.sz n = 9 := by
  have hs := V.sz_spec n
  unfold SzRel at hr
  simp only [Nat.reduceMul, Nat.reducePow] at hr
  omega
set_option maxHeartbeats 400000 in
theorem size_any (n : Nat) (w : World) (hn : n < 18446744073709551616) :
    Calls Tryz.prog 70 #[.int .u64 n] w fun e w' => e = .returned (.int .i64 (V.sz n)) ∧ w = w' := by
  go_enter Tryz.func70, Tryz.ntmps70
  go_wp2
  go_loop [2, 3, 4] (fun r _ i => ∃ k : Nat, k ≤ 8 ∧ SzRel n k ∧ i = .int .i64 k ∧ r = .int .i64 0) (fun _ _ i => 8 - (intOf i).toNat)
  case atStart => exact ⟨0, by omega, Or.inl rfl, rfl, rfl⟩
  case round =>
    obtain ⟨k, hk, hr, rfl, rfl⟩ := hrel
    by_cases hlt : k < 8
    · go_wp2
      · go_ret
        have := sz_at n k hlt hr (by assumption)
        exact ⟨by rw [this]; rfl, rfl⟩
      · have hr' := sz_on n k hlt (by assumption)
        go_round
        case rel => exact ⟨k + 1, by omega, hr', by go_num, rfl⟩
        case measure => simp [intOf]; omega
    · obtain rfl : k = 8 := by omega
      go_wp2
      go_ret
      have := sz_end n hr
      exact ⟨by rw [this]; rfl, rfl⟩
def sp (n k j : Nat) : List Nat := (List.range 9).map fun p => if k - j ≤ p ∧ p < k then n / 2 ^ (8 * (k - 1 - p)) % 256 else 0
def cs (l : List Nat) : Array Value := (l.map fun x : Nat => Value.int .u8 (x : Int)).toArray
theorem sp_length (n k j : Nat) : (sp n k j).length = 9 := by simp [sp]
theorem cs_size (l : List Nat) : (cs l).size = l.length := by simp [cs]
theorem sp_set (n k j : Nat) (hj : j < k) (hk : k ≤ 9) : (cs (sp n k j)).setIfInBounds (k - 1 - j) (Value.int .u8 ((n : Int) / 2 ^ (8 * j) % 256)) = cs (sp n k (j + 1)) := by
  have e : ((n : Int) / 2 ^ (8 * j) % 256) = ((n / 2 ^ (8 * j) % 256 : Nat) : Int) := by simp
  rw [e]
  simp only [cs, List.setIfInBounds_toArray]
  congr 1
  apply List.ext_getElem
  · simp [sp]
  · intro i h1 h2
    simp only [List.length_set, List.length_map, sp_length] at h1
    simp only [List.getElem_set, List.getElem_map, sp, List.getElem_range]
    by_cases hi : k - 1 - j = i
    · rw [if_pos hi, if_pos (by omega)]; congr 3; congr 2; omega
    · rw [if_neg hi]
      congr 2
      by_cases h3 : k - j ≤ i ∧ i < k
      · rw [if_pos h3, if_pos (by omega)]
      · rw [if_neg h3, if_neg (by omega)]
theorem sp_zero (n : Nat) (k : Nat) : cs (sp n k 0) = #[.int .u8 0, .int .u8 0, .int .u8 0, .int .u8 0, .int .u8 0, .int .u8 0, .int .u8 0, .int .u8 0, .int .u8 0] := by
  have : sp n k 0 = List.replicate 9 0 := by
    apply List.ext_getElem
    · simp [sp]
    · intro i h1 h2; simp only [sp, List.getElem_map, List.getElem_range, List.getElem_replicate]; rw [if_neg (by omega)]
  rw [this]; rfl
theorem list9 (l : List Nat) (h : l.length = 9) : ∃ c0 c1 c2 c3 c4 c5 c6 c7 c8, l = [c0, c1, c2, c3, c4, c5, c6, c7, c8] := by
  match l, h with
  | [c0, c1, c2, c3, c4, c5, c6, c7, c8], _ => exact ⟨c0, c1, c2, c3, c4, c5, c6, c7, c8, rfl⟩
theorem or_ld (k c : Nat) (h1 : 1 ≤ k) (h9 : k ≤ 9) (hc : c < 2 ^ (9 - k)) : bits .or .u8 (c : Int) (V.ld k : Int) = ((c + V.ld k : Nat) : Int) := by
  have hl : V.ld k = 2 ^ (9 - k) * (2 ^ (k - 1) - 1) := by
    rcases nine h1 h9 with rfl | rfl | rfl | rfl | rfl | rfl | rfl | rfl | rfl <;> rfl
  have hc2 : c < 256 := by
    rcases nine h1 h9 with rfl | rfl | rfl | rfl | rfl | rfl | rfl | rfl | rfl <;> simp only [Nat.reduceSub, Nat.reducePow] at hc <;> omega
  have hl2 : V.ld k < 256 := by
    rcases nine h1 h9 with rfl | rfl | rfl | rfl | rfl | rfl | rfl | rfl | rfl <;> decide
  rw [u8_or_nat _ _ hc2 hl2, Nat.or_comm, hl, ← Nat.two_pow_add_eq_or_of_lt hc, Nat.add_comm]
theorem spell_end (n : Nat) (hn : n < 18446744073709551616) (c0 c1 c2 c3 c4 c5 c6 c7 c8 : Nat) (hc : sp n (V.sz n) (V.sz n) = [c0, c1, c2, c3, c4, c5, c6, c7, c8]) :
    bits .or .u8 (c0 : Int) (V.ld (V.sz n) : Int) = ((c0 + V.ld (V.sz n) : Nat) : Int) ∧
    [c0 + V.ld (V.sz n), c1, c2, c3, c4, c5, c6, c7, c8].take (V.sz n) = (V.enc n).map (·.toNat) := by
  have hg := V.sz_ge n
  have h9 := V.sz_le n
  have hb : c0 < 2 ^ (9 - V.sz n) ∧ [c0 + V.ld (V.sz n), c1, c2, c3, c4, c5, c6, c7, c8].take (V.sz n) = (V.enc n).map (·.toNat) := by
    unfold V.enc
    rcases V.sz_spec n with ⟨h, h1⟩ | ⟨h, h1, h2⟩ | ⟨h, h1, h2⟩ | ⟨h, h1, h2⟩ | ⟨h, h1, h2⟩ | ⟨h, h1, h2⟩ | ⟨h, h1, h2⟩ | ⟨h, h1, h2⟩ | ⟨h, h1⟩
    all_goals
      rw [h] at hc ⊢
      simp [sp, List.range, List.range.loop] at hc
      simp only [V.be, V.ld, List.take_succ_cons, List.take_zero, List.map_cons, List.map_nil, UInt8.toNat_ofNat', Nat.reduceSub, Nat.reducePow, Nat.reduceMul, List.cons.injEq, and_true]
      omega
  exact ⟨or_ld _ _ hg h9 hb.1, hb.2⟩
def SpellPost (n : Nat) (w : World) (e : Ending) (w' : World) : Prop :=
  ∃ c0 c1 c2 c3 c4 c5 c6 c7 c8 : Nat, e = .returned (.tuple #[.agg #[.int .u8 c0, .int .u8 c1, .int .u8 c2, .int .u8 c3, .int .u8 c4, .int .u8 c5, .int .u8 c6, .int .u8 c7, .int .u8 c8], .int .i64 (V.sz n)]) ∧
    [c0, c1, c2, c3, c4, c5, c6, c7, c8].take (V.sz n) = (V.enc n).map (·.toNat) ∧ Below w.heap.size w w'
set_option maxHeartbeats 400000 in
theorem spell_any (n : Nat) (w : World) (hn : n < 18446744073709551616) :
    Calls Tryz.prog 42 #[.int .u64 n] w (SpellPost n w) := by
  have h1 := V.sz_ge n
  have h9 := V.sz_le n
  go_enter Tryz.func42, Tryz.ntmps42
  go_wp2_with fail
  refine (size_any n _ hn).mono ?_
  rintro e w' ⟨rfl, rfl⟩
  go_wp2_with fail
  go_loopw [6, 10] (fun _ i wr => ∃ j : Nat, j ≤ V.sz n ∧ i = .int .i64 j ∧ wr = (w.alloc (.cells (cs (sp n 0 0)) 68)).alloc (.cells (cs (sp n (V.sz n) j)) 68)) (fun _ i _ => V.sz n - (intOf i).toNat)
  case atStart => exact ⟨0, by omega, rfl, by rw [sp_zero, sp_zero]⟩
  case round =>
    obtain ⟨j, hj, rfl, rfl⟩ := hrel
    by_cases hlt : j < V.sz n
    · have HS := Lib.hid (sp_set n (V.sz n) j hlt h9)
      have hcs := cs_size (sp n (V.sz n) j)
      have hsl := sp_length n (V.sz n) j
      obtain ⟨v3, hv3⟩ : ∃ v, (cs (sp n (V.sz n) j))[V.sz n - 1 - j]? = some v := by
        rw [Array.getElem?_eq_getElem (by omega)]; exact ⟨_, rfl⟩
      clear hcs hsl
      go_wp2
      refine ⟨⟨j + 1, by omega, by go_num, by rw [HS.out]⟩, by simp [intOf]; omega⟩
    · obtain ⟨c0, c1, c2, c3, c4, c5, c6, c7, c8, hc⟩ := list9 (sp n (V.sz n) j) (sp_length n (V.sz n) j)
      rw [sp_zero, hc]
      simp only [cs, List.map_cons, List.map_nil]
      obtain rfl : j = V.sz n := by omega
      obtain ⟨hor, hend⟩ := spell_end n hn c0 c1 c2 c3 c4 c5 c6 c7 c8 hc
      have H := Lib.hid hend
      clear hc hend
      generalize hd : c0 + V.ld (V.sz n) = d at hor H
      clear hd hlt
      go_wp2_with fail
      go_region_with (go_at_call 71; refine (lead_any _ _ h1 h9).mono ?_; rintro e w' ⟨rfl, rfl⟩)
      all_goals
        go_wp2
        refine bodyPost_ret (v := .tuple #[.agg #[.int .u8 d, .int .u8 c1, .int .u8 c2, .int .u8 c3, .int .u8 c4, .int .u8 c5, .int .u8 c6, .int .u8 c7, .int .u8 c8], .int .i64 (V.sz n)]) (by simp [results, Tryz.results42, go_sem]) rfl ⟨d, c1, c2, c3, c4, c5, c6, c7, c8, rfl, H.out, ?_⟩
      all_goals exact (((Below.refl _ _).alloc (Nat.le_refl _) _).alloc (by simp) _).drew
end Go.Proofs.YtcachhnhncodoaaGreat
namespace Go.Proofs
open Go.Shelf
def Tryz.lays131_ren : Go.Shelf.Ren := ⟨fun | 131 => 80 | 126 => 116 | n => n, fun | 5 => 5 | 3 => 3 | 9 => 9 | n => n, fun | n => n⟩
theorem Tryz.lays131 : Go.Proofs.Lays.n131 Tryz.prog Tryz.lays131_ren := {
  mixed := by kernel_rfl
  f126 := Tryz.func116.trans (congrArg some (by kernel_rfl))
  f131 := Tryz.func80.trans (congrArg some (by kernel_rfl))
  t3 := Tryz.underlying3
  a3 := Tryz.isAgg3
  z3 := Tryz.sizeOf3
  v3 := Tryz.zeroValue3
  t5 := Tryz.underlying5
  a5 := Tryz.isAgg5
  z5 := Tryz.sizeOf5
  v5 := Tryz.zeroValue5
  t9 := Tryz.underlying9
  a9 := Tryz.isAgg9
  z9 := Tryz.sizeOf9
  v9 := Tryz.zeroValue9 }
theorem Tryz.bits_LeadingZeros8 (x : Int) (w : World) (h0 : 0 ≤ x) (h1 : x ≤ 255) :
    Calls Tryz.prog 80 #[.int .u8 x] w fun e w' => e = .returned (.int .i64 (8 - (Lib.bitLen x.toNat : Int))) ∧ w' = w := Any.bits_LeadingZeros8 Tryz.lays131 x w h0 h1
end Go.Proofs
