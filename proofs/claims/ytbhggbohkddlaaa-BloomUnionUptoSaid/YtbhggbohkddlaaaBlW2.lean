/- The walk of bloom.Hash. -/
import Derived.Test.YtbhggbohkddlaaaBlW1
import Derived.Laws.IdiomStrings
namespace Go.Proofs.Ytbhggbohkddlaaa
open Go.RowKit
set_option linter.unusedVariables false

def HashPost (h : Nat) (w : World) (e : Ending) (w' : World) : Prop := e = .returned (.int .u64 (h : Int)) ∧ Below w.heap.size w w'

theorem conv_bytes (t : List UInt8) (w : World) : ∃ c w', (convert 9 44 (.string (str t))).run Try.prog w = .ok (.slice (some ⟨w.heap.size, 0, none⟩) t.length c) w' ∧ Below w.heap.size w w' ∧
    ∀ i, i < t.length → w'.cell? ⟨w.heap.size, 0 + i, none⟩ = some (.int .u8 (((t.map UInt8.toNat).getD i 0 : Nat) : Int)) := by
  have h := run_bytes_of_string w 9 44 5 (str t) Try.underlying9 Try.underlying44 Try.underlying5
  rw [str_size] at h
  refine ⟨_, _, h, ((Below.refl _ _).drew).alloc (by simp) _, fun i hi => ?_⟩
  rw [Nat.zero_add]
  have hb : (w.drew.alloc (.cells (bytesRow (str t) (grownCap w t.length 0 5)) 5 ((bytesRow (str t) (grownCap w t.length 0 5)).size, (bytesRow (str t) (grownCap w t.length 0 5)).size + 1))).heap[w.heap.size]? = some (.cells (bytesRow (str t) (grownCap w t.length 0 5)) 5 ((bytesRow (str t) (grownCap w t.length 0 5)).size, (bytesRow (str t) (grownCap w t.length 0 5)).size + 1)) := heap_alloc_new w.drew _
  unfold World.cell?
  simp only [hb]
  unfold bytesRow
  rw [Array.getElem?_append_left (by simpa [str] using hi)]
  simp [str, hi]

theorem stirB_len (len : Nat) (b off c : Nat) (xs : List Nat) (hlen : xs.length = len) (h : Nat) (w : World) (hh : h < 18446744073709551616) (hl : len ≤ maxLen) (hb : ∀ i, i < len → xs.getD i 0 < 256)
    (hc : ∀ i, i < len → w.cell? ⟨b, off + i, none⟩ = some (.int .u8 ((xs.getD i 0 : Nat) : Int))) :
    Calls Try.prog 21 #[.int .u64 h, .slice (some ⟨b, off, none⟩) len c] w fun e w' => e = .returned (.int .u64 (Bl.stir h xs : Nat)) ∧ w = w' := by
  subst hlen
  exact stirB_any b off c xs h w hh hl hb hc

set_option maxHeartbeats 4000000 in
set_option maxRecDepth 100000 in
theorem hash_any (c : C.Cl) (w : World) (hc : cOk c) :
    Calls Try.prog 7 #[cag c] w (HashPost (Bl.hash c) w) := by
  obtain ⟨k, n, t⟩ := c
  obtain ⟨hk1, hk2, hn, ht⟩ := hc
  simp only at hk1 hk2 hn ht
  unfold cag
  go_enter Try.func7, Try.ntmps7
  go_wp2_with fail
  refine (stirI_any (w.heap.size + 1) 0 1 [k] 14695981039346656037 _ (by omega) (by simp [maxLen]) ?_).mono ?_
  · intro i hi
    obtain rfl : i = 0 := by simpa using hi
    simp
  rintro e w1 ⟨rfl, rfl⟩
  go_wp2_with fail
  refine (stirU_any (w.heap.size + 1 + 1) 0 8 (Bl.eight n) (Bl.stir 14695981039346656037 [Bl.low k]) _ (Bl.stir_lt _ _ (by omega)) (by simp [maxLen, Bl.eight]) ?_).mono ?_
  · intro i hi
    have hi8 : i < 8 := hi
    rw [Nat.zero_add, show w.heap.size + 1 + 1 = ((w.alloc (Obj.cells #[Value.int IntKind.i64 k, Value.int IntKind.u64 ↑n, Value.string (str t)] 26)).alloc (Obj.cells #[Value.int IntKind.i64 k] 3)).heap.size by simp, World.cell?_alloc_new]
    have : i = 0 ∨ i = 1 ∨ i = 2 ∨ i = 3 ∨ i = 4 ∨ i = 5 ∨ i = 6 ∨ i = 7 := by omega
    rcases this with rfl | rfl | rfl | rfl | rfl | rfl | rfl | rfl <;> simp [Bl.eight]
  rintro e w1 ⟨rfl, hw1⟩
  have hc2 : w1.cell? ⟨w.heap.size, 2, none⟩ = some (.string (str t)) := by rw [← hw1]; simp [go_sem]
  have hb1 : Below w.heap.size w w1 := by
    rw [← hw1]
    refine Below.alloc (Below.alloc (Below.alloc (Below.refl _ _) (Nat.le_refl _) _) ?_ _) ?_ _ <;> simp <;> omega
  have hs1 : w.heap.size ≤ w1.heap.size := hb1.size
  clear hw1
  have HR := Lib.hid (Bl.hash_three k n t)
  have hq := Bl.stir_lt (List.map (fun x => x % 256) (Bl.eight n)) (Bl.stir 14695981039346656037 [Bl.low k]) (Bl.stir_lt _ _ (by omega))
  generalize Bl.stir (Bl.stir 14695981039346656037 [Bl.low k]) (List.map (fun x => x % 256) (Bl.eight n)) = q at *
  obtain ⟨cp, w2, hcv, hb2, hcells⟩ := conv_bytes t w1
  have HQ := Lib.hid hcells
  have HB2 := Lib.hid (below_then hb1 hb2)
  clear hcells hb2 hb1
  go_wp2_with fail
  refine (stirB_len t.length w1.heap.size 0 cp (t.map UInt8.toNat) (List.length_map ..) q w2 hq ht ?_ ?_).mono ?_
  · intro i hi
    have hi' : i < t.length := hi
    simp only [List.getD, List.getElem?_map, List.getElem?_eq_getElem hi', Option.map_some, Option.getD_some]
    exact UInt8.toNat_lt _
  · exact HQ.out
  rintro e w3 ⟨rfl, rfl⟩
  go_wp2_with fail
  go_ret
  exact ⟨by rw [HR.out]; rfl, HB2.out⟩
end Go.Proofs.Ytbhggbohkddlaaa
