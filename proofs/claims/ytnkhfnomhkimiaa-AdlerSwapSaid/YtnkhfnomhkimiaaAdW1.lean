/- The walks of adler.split, (halves).sum, times. -/
import Derived.Test.YtnkhfnomhkimiaaAdPlain
namespace Go.Proofs.Ytnkhfnomhkimiaa
open Go.RowKit
set_option linter.unusedVariables false

def hd (p q : Nat) : Array Value := #[.int .u64 (p : Int), .int .u64 (q : Int)]
def hv (p q : Nat) : Value := .agg (hd p q)
/-- a block that holds both halves -/
def Duo (w : World) (b : Nat) (p q : Nat) : Prop := w.heap[b]? = some (.cells (hd p q) 40 (0, 0))
theorem Duo.c0 {w : World} {b p q : Nat} (h : Duo w b p q) : w.cell? ⟨b, 0, none⟩ = some (.int .u64 (p : Int)) := by
  unfold Duo hd at h; simp [World.cell?, h]
theorem Duo.c1 {w : World} {b p q : Nat} (h : Duo w b p q) : w.cell? ⟨b, 1, none⟩ = some (.int .u64 (q : Int)) := by
  unfold Duo hd at h; simp [World.cell?, h]
theorem Duo.free {w : World} {b p q : Nat} (h : Duo w b p q) (i : Nat) : w.frozen? ⟨b, i, none⟩ = false := by unfold Duo at h; simp [World.frozen?, h]
theorem Duo.lt {w : World} {b p q : Nat} (h : Duo w b p q) : b < w.heap.size := lt_of_block h
theorem Duo.next {w w' : World} {b p q : Nat} (h : Duo w b p q) (hb : Below w.heap.size w w') : Duo w' b p q := (hb.block b h.lt).trans h
theorem Duo.put0 {w : World} {b p q : Nat} (h : Duo w b p q) (x : Nat) : Duo (w.setCell ⟨b, 0, none⟩ (.int .u64 (x : Int))) b x q := by
  unfold Duo hd at *; simp [World.setCell, Array.getElem?_modify, h]
theorem Duo.put1 {w : World} {b p q : Nat} (h : Duo w b p q) (x : Nat) : Duo (w.setCell ⟨b, 1, none⟩ (.int .u64 (x : Int))) b p x := by
  unfold Duo hd at *; simp [World.setCell, Array.getElem?_modify, h]
theorem Duo.drew {w : World} {b p q : Nat} (h : Duo w b p q) : Duo w.drew b p q := h
theorem duo_new (w : World) (p q : Nat) : Duo (w.alloc (.cells (hd p q) 40)) w.heap.size p q := heap_alloc_new _ _

theorem and_u32 (c : Nat) (hc : c < 4294967296) : bits .and .u32 (c : Int) 65535 = ((c % 65536 : Nat) : Int) := by
  have h1 : (BitVec.ofInt 32 (c : Int)).toNat = c := by
    rw [BitVec.ofInt_natCast, BitVec.toNat_ofNat]; exact Nat.mod_eq_of_lt (by omega)
  have h2 : (BitVec.ofInt 32 (65535 : Int)).toNat = 65535 := by decide
  show IntKind.u32.wrap ((BitVec.ofInt 32 (c : Int) &&& BitVec.ofInt 32 (65535 : Int)).toNat : Int) = _
  rw [BitVec.toNat_and, h1, h2, show (65535 : Nat) = 2 ^ 16 - 1 from rfl, Nat.and_two_pow_sub_one_eq_mod, IntKind.wrap_u32]
  omega
theorem or_u32 (a b : Nat) (ha : a < 65536) (hb : b < 65536) : bits .or .u32 ((a : Int) * 65536) (b : Int) = ((a * 65536 + b : Nat) : Int) := by
  have h1 : (BitVec.ofInt 32 ((a * 65536 : Nat) : Int)).toNat = a * 65536 := by
    rw [BitVec.ofInt_natCast, BitVec.toNat_ofNat]; exact Nat.mod_eq_of_lt (by omega)
  have h2 : (BitVec.ofInt 32 (b : Int)).toNat = b := by
    rw [BitVec.ofInt_natCast, BitVec.toNat_ofNat]; exact Nat.mod_eq_of_lt (by omega)
  rw [show (a : Int) * 65536 = ((a * 65536 : Nat) : Int) by omega]
  show IntKind.u32.wrap ((BitVec.ofInt 32 ((a * 65536 : Nat) : Int) ||| BitVec.ofInt 32 (b : Int)).toNat : Int) = _
  rw [BitVec.toNat_or, h1, h2, Nat.mul_comm, show (65536 : Nat) = 2 ^ 16 from rfl, ← Nat.two_pow_add_eq_or_of_lt (by omega), IntKind.wrap_u32]
  omega

def HvPost (p q : Nat) (w : World) (e : Ending) (w' : World) : Prop := e = .returned (.agg #[.int .u64 (p : Int), .int .u64 (q : Int)]) ∧ Below w.heap.size w w'
def U32Post (n : Nat) (w : World) (e : Ending) (w' : World) : Prop := e = .returned (.int .u32 (n : Int)) ∧ Below w.heap.size w w'

set_option maxHeartbeats 1000000 in
theorem split_any (c : Nat) (w : World) (hc : c < 4294967296) :
    Calls Try.prog 18 #[.int .u32 c] w (HvPost (Ad.lo c) (Ad.hi c) w) := by
  have ha := and_u32 c hc
  have hlo : (c : Int) % 65536 % 65521 = (Ad.lo c : Int) := by unfold Ad.lo; omega
  have hhi : (c : Int) / 65536 % 65521 = (Ad.hi c : Int) := by unfold Ad.hi; omega
  have hl := Ad.lo_lt c
  have hh := Ad.hi_lt c
  generalize Ad.lo c = p at *
  generalize Ad.hi c = q at *
  have hn := duo_new w 0 0
  have hs := (hn.put0 p).put1 q
  have z0 := hs.c0
  have z1 := hs.c1
  have hbw : Below w.heap.size w (w.alloc (.cells (hd 0 0) 40)) := (Below.refl _ _).alloc (Nat.le_refl _) _
  unfold hd at hn hs hbw z0 z1
  clear hs
  go_enter Try.func18, Try.ntmps18
  go_wp2_with fail
  refine bodyPost_ret (v := .agg #[.int .u64 (p : Int), .int .u64 (q : Int)]) (by simp [results, Try.results18, go_sem]) rfl ⟨rfl, ?_⟩
  exact (Below.refl _ _).alloc (Nat.le_refl _) _

set_option maxHeartbeats 1000000 in
theorem sum_any (p q : Nat) (w : World) (hp : p < 18446744073709551616) (hq : q < 18446744073709551616) :
    Calls Try.prog 19 #[.agg #[.int .u64 (p : Int), .int .u64 (q : Int)]] w (U32Post (Ad.sum (p % 65521, q % 65521)) w) := by
  have ho := or_u32 (q % 65521) (p % 65521) (by omega) (by omega)
  rw [show ((q % 65521 : Nat) : Int) = (q : Int) % 65521 by omega, show ((p % 65521 : Nat) : Int) = (p : Int) % 65521 by omega] at ho
  go_enter Try.func19, Try.ntmps19
  go_wp2_with fail
  go_ret
  refine ⟨?_, (Below.refl _ _).alloc (Nat.le_refl _) _⟩
  show Ending.returned (.int .u32 ((q : Int) % 65521 * 65536 + (p : Int) % 65521)) = _
  rw [show (q : Int) % 65521 * 65536 + (p : Int) % 65521 = ((Ad.sum (p % 65521, q % 65521) : Nat) : Int) by unfold Ad.sum; omega]

def TimesPost (v e' : Int) (w : World) (e : Ending) (w' : World) : Prop := e = .returned (.tuple #[.int .u64 v, .int .i64 e']) ∧ Below w.heap.size w w'
set_option maxHeartbeats 1000000 in
theorem times_bad (n l : Int) (w : World) (hn : -9223372036854775808 ≤ n ∧ n ≤ 9223372036854775807) (h : n < l ∨ 2147483647 < n) :
    Calls Try.prog 17 #[.int .i64 n, .int .i64 l] w (TimesPost 0 3 w) := by
  by_cases h1 : n < l
  · go_enter Try.func17, Try.ntmps17
    go_wp2_with fail
    go_ret2
    exact ⟨rfl, Below.refl _ _⟩
  · have h2 : 2147483647 < n := by omega
    go_enter Try.func17, Try.ntmps17
    go_wp2_with fail
    go_ret2
    exact ⟨rfl, Below.refl _ _⟩
set_option maxHeartbeats 1000000 in
theorem times_ok (n : Nat) (l : Int) (w : World) (h1 : ¬ (n : Int) < l) (h2 : n ≤ 2147483647) :
    Calls Try.prog 17 #[.int .i64 n, .int .i64 l] w (TimesPost ((n % 65521 : Nat) : Int) 0 w) := by
  have h3 : ¬ 2147483647 < (n : Int) := by omega
  have hw : IntKind.u64.wrap (n : Int) = n := by rw [IntKind.wrap_u64]; omega
  go_enter Try.func17, Try.ntmps17
  go_wp2_with fail
  go_ret2
  exact ⟨rfl, Below.refl _ _⟩
end Go.Proofs.Ytnkhfnomhkimiaa
