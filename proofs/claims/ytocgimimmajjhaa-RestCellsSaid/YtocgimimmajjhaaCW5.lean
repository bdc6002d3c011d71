/- The walk of nulls.At. -/
import Derived.Test.YtocgimimmajjhaaCW4
namespace Go.Proofs.Ytocgimimmajjhaa
open Go.RowKit
set_option linter.unusedVariables false

/-- a block of one cell -/
def Tri (w : World) (b : Nat) (v0 v1 v2 : Value) : Prop := w.heap[b]? = some (.cells #[v0, v1, v2] 38 (0, 0))
theorem Tri.c0 {w : World} {b : Nat} {v0 v1 v2 : Value} (h : Tri w b v0 v1 v2) : w.cell? ⟨b, 0, none⟩ = some v0 := by unfold Tri at h; simp [World.cell?, h]
theorem Tri.c1 {w : World} {b : Nat} {v0 v1 v2 : Value} (h : Tri w b v0 v1 v2) : w.cell? ⟨b, 1, none⟩ = some v1 := by unfold Tri at h; simp [World.cell?, h]
theorem Tri.c2 {w : World} {b : Nat} {v0 v1 v2 : Value} (h : Tri w b v0 v1 v2) : w.cell? ⟨b, 2, none⟩ = some v2 := by unfold Tri at h; simp [World.cell?, h]
theorem Tri.free {w : World} {b : Nat} {v0 v1 v2 : Value} (h : Tri w b v0 v1 v2) (i : Nat) : w.frozen? ⟨b, i, none⟩ = false := by unfold Tri at h; simp [World.frozen?, h]
theorem Tri.lt {w : World} {b : Nat} {v0 v1 v2 : Value} (h : Tri w b v0 v1 v2) : b < w.heap.size := lt_of_block h
theorem Tri.next {w w' : World} {b : Nat} {v0 v1 v2 : Value} (h : Tri w b v0 v1 v2) (hb : Below w.heap.size w w') : Tri w' b v0 v1 v2 := (hb.block b h.lt).trans h
theorem Tri.s0 {w : World} {b : Nat} {v0 v1 v2 : Value} (h : Tri w b v0 v1 v2) (x : Value) : Tri (w.setCell ⟨b, 0, none⟩ x) b x v1 v2 := by
  unfold Tri at *; simp [World.setCell, Array.getElem?_modify, h]
theorem Tri.s1 {w : World} {b : Nat} {v0 v1 v2 : Value} (h : Tri w b v0 v1 v2) (x : Value) : Tri (w.setCell ⟨b, 1, none⟩ x) b v0 x v2 := by
  unfold Tri at *; simp [World.setCell, Array.getElem?_modify, h]
theorem Tri.s2 {w : World} {b : Nat} {v0 v1 v2 : Value} (h : Tri w b v0 v1 v2) (x : Value) : Tri (w.setCell ⟨b, 2, none⟩ x) b v0 v1 x := by
  unfold Tri at *; simp [World.setCell, Array.getElem?_modify, h]
theorem tri_new (w : World) (v0 v1 v2 : Value) : Tri (w.alloc (.cells #[v0, v1, v2] 38)) w.heap.size v0 v1 v2 := heap_alloc_new _ _

def atR (k : Int) (m : List Bool) (l : List C.Cl) (p : Int) : C.Cl × Nat :=
  if fitC k m l ≠ 0 then (C.null, fitC k m l) else if p < 0 ∨ (m.length : Int) ≤ p then (C.null, 3) else ((C.join m l).getD p.toNat C.null, 0)
def AtPost (r : C.Cl × Nat) (w : World) (e : Ending) (w' : World) : Prop := e = .returned (.tuple #[cag r.1, .int .i64 (r.2 : Nat)]) ∧ Below w.heap.size w w'
theorem cag_null : cag C.null = .agg #[.int .i64 0, .int .u64 0, .string ⟨#[]⟩] := rfl

set_option maxHeartbeats 2000000 in
set_option maxRecDepth 100000 in
theorem nat_any (k p : Int) (am : Option Addr) (cm : Nat) (m : List Bool) (a : Option Addr) (c : Nat) (l : List C.Cl) (w : World) (hqm : m.length ≤ cm ∧ cm ≤ maxLen ∧ (am = none → cm = 0)) (hum : Bools w w.heap.size am m) (hm : l.length ≤ maxLen) (hx : ∀ x ∈ l, cOk x) (hu : Cls w w.heap.size a l) :
    Calls Try.prog 17 #[.int .i64 k, .slice am m.length cm, .slice a l.length c, .int .i64 p] w (AtPost (atR k m l p) w) := by
  have hal : Below w.heap.size w (w.alloc (.cells #[.int .i64 0, .int .u64 0, .string ByteArray.empty] 38)) := (Below.refl _ _).alloc (Nat.le_refl _) _
  have hmm : m.length ≤ maxLen := Nat.le_trans hqm.1 hqm.2.1
  have HC := Lib.hid (nfit_any k am cm m a c l (w.alloc (.cells #[.int .i64 0, .int .u64 0, .string ByteArray.empty] 38)) hmm (hum.next hal) hm hx (hu.next hal))
  have HT := Lib.hid (tri_new w (.int .i64 0) (.int .u64 0) (.string ByteArray.empty))
  have HAL := Lib.hid hal
  have HM := Lib.hid hum
  have HU := Lib.hid hu
  have HK := Lib.hid (fun w1 (hb : Below w.heap.size w w1) => rank_any am cm m p w1 _ hqm (hum.below hb))
  have hrank : 0 ≤ p → p < (m.length : Int) → M.rankR m p = (M.cnt (m.take p.toNat), 0) := fun h1 h2 => by unfold M.rankR; rw [if_neg (by omega)]
  unfold maxLen at hmm
  clear hu hum hx hal hm hqm
  by_cases h1 : fitC k m l ≠ 0
  · have HR := Lib.hid (show atR k m l p = (C.null, fitC k m l) from if_pos h1)
    generalize fitC k m l = er at *
    have g1 : ((er : Int) != 0) = true := by rw [bne_iff_ne]; omega
    clear h1 hrank
    go_enter Try.func17, Try.ntmps17
    go_wp2_with fail
    refine (HC.out).mono ?_
    rintro e w1 ⟨rfl, hb1⟩
    have q0 := HT.out.next hb1
    have hbw := below_then HAL.out hb1
    obtain ⟨G, hG⟩ : ∃ G, G = w.heap.size := ⟨_, rfl⟩
    rw [← hG] at q0 ⊢
    have hGw : w.heap.size ≤ G := by omega
    have q1 := q0.s0 (.int .i64 0)
    have q2 := q1.s1 (.int .u64 0)
    have q3 := q2.s2 (.string ⟨#[]⟩)
    have a0 := q0.c0
    have b0 := q0.free 0
    have a1 := q1.c1
    have b1 := q1.free 1
    have a2 := q2.c2
    have b2 := q2.free 2
    have z0 := q3.c0
    have z1 := q3.c1
    have z2 := q3.c2
    have hb3 := ((hbw.setCell (p := ⟨G, 0, none⟩) hGw (.int .i64 0)).setCell (p := ⟨G, 1, none⟩) hGw (.int .u64 0)).setCell (p := ⟨G, 2, none⟩) hGw (.string ⟨#[]⟩)
    have HB3 := Lib.hid hb3
    clear hG hb3
    go_wp2_with fail
    refine bodyPost_ret (v := .tuple #[.agg #[.int .i64 0, .int .u64 0, .string ⟨#[]⟩], .int .i64 er]) (by simp [results, Try.results17, go_sem, z0, z1, z2]) rfl ⟨by rw [HR.out]; rfl, HB3.out⟩
  have h1' : fitC k m l = 0 := Classical.not_not.1 h1
  obtain ⟨hchk, _, hm64, hcnt⟩ := fitC_ok h1'
  obtain ⟨_, hl64, _⟩ := C.chk_ok hchk
  rw [h1'] at HC
  by_cases hp : p < 0 ∨ (m.length : Int) ≤ p
  · have HR := Lib.hid (show atR k m l p = (C.null, 3) by unfold atR; rw [if_neg h1, if_pos hp])
    clear h1 h1' hrank hchk
    have hpp : decide (p < 0) = true ∨ (decide (p < 0) = false ∧ decide ((m.length : Int) ≤ p) = true) := by
      by_cases h0 : p < 0
      · exact Or.inl (decide_eq_true h0)
      · exact Or.inr ⟨decide_eq_false h0, decide_eq_true (by omega)⟩
    clear hp
    rcases hpp with g1 | ⟨g1, g2⟩
    all_goals
      go_enter Try.func17, Try.ntmps17
      go_wp2_with fail
      refine (HC.out).mono ?_
      rintro e w1 ⟨rfl, hb1⟩
      have q0 := HT.out.next hb1
      have hbw := below_then HAL.out hb1
      obtain ⟨G, hG⟩ : ∃ G, G = w.heap.size := ⟨_, rfl⟩
      rw [← hG] at q0 ⊢
      have hGw : w.heap.size ≤ G := by omega
      have q1 := q0.s0 (.int .i64 0)
      have q2 := q1.s1 (.int .u64 0)
      have q3 := q2.s2 (.string ⟨#[]⟩)
      have a0 := q0.c0
      have b0 := q0.free 0
      have a1 := q1.c1
      have b1 := q1.free 1
      have a2 := q2.c2
      have b2 := q2.free 2
      have z0 := q3.c0
      have z1 := q3.c1
      have z2 := q3.c2
      have hb3 := ((hbw.setCell (p := ⟨G, 0, none⟩) hGw (.int .i64 0)).setCell (p := ⟨G, 1, none⟩) hGw (.int .u64 0)).setCell (p := ⟨G, 2, none⟩) hGw (.string ⟨#[]⟩)
      have HB3 := Lib.hid hb3
      clear hG hb3
      go_wp2_with fail
      refine bodyPost_ret (v := .tuple #[.agg #[.int .i64 0, .int .u64 0, .string ⟨#[]⟩], .int .i64 3]) (by simp [results, Try.results17, go_sem, z0, z1, z2]) rfl ⟨by rw [HR.out]; rfl, HB3.out⟩
  obtain ⟨i, rfl⟩ : ∃ i : Nat, p = i := ⟨p.toNat, by omega⟩
  have hi : i < m.length := by omega
  have hja := C.join_at m l i hi
  have hR : atR k m l i = ((C.join m l).getD i C.null, 0) := by unfold atR; rw [if_neg h1, if_neg hp, Int.toNat_natCast]
  rw [hja] at hR
  have hrk := hrank (by omega) (by omega)
  rw [Int.toNat_natCast] at hrk
  rw [hrk] at HK
  have hsn := M.cnt_snoc m i hi
  have hle := M.cnt_take_le m (i + 1)
  obtain ⟨mb, moff, rfl, hmb, hmc⟩ := HM.out (fun e => by rw [e] at hi; simp at hi)
  have k0 := hmc i hi
  have g1 : decide ((i : Int) < 0) = false := decide_eq_false (by omega)
  have g2 : decide ((m.length : Int) ≤ (i : Int)) = false := decide_eq_false (by omega)
  have g3 : (0 : Int) ≤ (i : Int) := by omega
  have g4 : (i : Int) < (m.length : Int) := by omega
  have HBM := Lib.hid (fun w1 (hb : Below w.heap.size w w1) => (hb.cell (p := ⟨mb, moff + i, none⟩) hmb).trans k0)
  clear h1 h1' hrank hchk hp hja hmc hrk
  cases hb : m.getD i false with
  | false =>
    rw [hb] at hR HBM
    rw [if_neg (by simp)] at hR
    have HR := Lib.hid hR
    clear hR hsn hb k0
    go_enter Try.func17, Try.ntmps17
    go_wp2_with fail
    refine (HC.out).mono ?_
    rintro e w1 ⟨rfl, hb1⟩
    have q0 := HT.out.next hb1
    have hbw := below_then HAL.out hb1
    have km := HBM.out w1 hbw
    obtain ⟨G, hG⟩ : ∃ G, G = w.heap.size := ⟨_, rfl⟩
    rw [← hG] at q0 ⊢
    have hGw : w.heap.size ≤ G := by omega
    have q1 := q0.s0 (.int .i64 0)
    have q2 := q1.s1 (.int .u64 0)
    have q3 := q2.s2 (.string ⟨#[]⟩)
    have a0 := q0.c0
    have b0 := q0.free 0
    have a1 := q1.c1
    have b1 := q1.free 1
    have a2 := q2.c2
    have b2 := q2.free 2
    have z0 := q3.c0
    have z1 := q3.c1
    have z2 := q3.c2
    have hb3 := ((hbw.setCell (p := ⟨G, 0, none⟩) hGw (.int .i64 0)).setCell (p := ⟨G, 1, none⟩) hGw (.int .u64 0)).setCell (p := ⟨G, 2, none⟩) hGw (.string ⟨#[]⟩)
    have HB3 := Lib.hid hb3
    clear hG hb3
    go_wp2_with fail
    refine bodyPost_ret (v := .tuple #[.agg #[.int .i64 0, .int .u64 0, .string ⟨#[]⟩], .int .i64 0]) (by simp [results, Try.results17, go_sem, z0, z1, z2]) rfl ⟨by rw [HR.out]; rfl, HB3.out⟩
  | true =>
    rw [hb] at hR HBM hsn
    rw [if_pos rfl] at hR hsn
    have hq : M.cnt (m.take i) < l.length := by omega
    generalize M.cnt (m.take i) = q at *
    obtain ⟨b, off, rfl, hbb, hcc⟩ := HU.out (fun e => by rw [e] at hq; simp at hq)
    obtain ⟨t0, t1, t2⟩ := hcc q hq
    obtain ⟨y, hy⟩ : ∃ y, y = l.getD q C.null := ⟨_, rfl⟩
    rw [← hy] at t0 t1 t2 hR
    have HR := Lib.hid hR
    have hqI : (q : Int) < (l.length : Int) := by omega
    have hq0 : (0 : Int) ≤ (q : Int) := by omega
    clear hR hsn hb k0 hcc hle hy hcnt
    go_enter Try.func17, Try.ntmps17
    go_wp2_with fail
    refine (HC.out).mono ?_
    rintro e w1 ⟨rfl, hb1⟩
    have q0 := HT.out.next hb1
    have hbw := below_then HAL.out hb1
    have km := HBM.out w1 hbw
    have HK1 := Lib.hid (HK.out w1 hbw)
    have y0 := (hbw.cell (p := ⟨b, off + q * 3, none⟩) hbb).trans t0
    have y1 := (hbw.cell (p := ⟨b, off + q * 3 + 1, none⟩) hbb).trans t1
    have y2 := (hbw.cell (p := ⟨b, off + q * 3 + 2, none⟩) hbb).trans t2
    obtain ⟨G, hG⟩ : ∃ G, G = w.heap.size := ⟨_, rfl⟩
    rw [← hG] at q0 ⊢
    have hGw : w.heap.size ≤ G := by omega
    have hbG : ¬ b = G := by omega
    have q1 := q0.s0 (.int .i64 y.kind)
    have q2 := q1.s1 (.int .u64 (y.num : Int))
    have q3 := q2.s2 (.string (str y.txt))
    have a0 := q0.c0
    have b0 := q0.free 0
    have a1 := q1.c1
    have b1 := q1.free 1
    have a2 := q2.c2
    have b2 := q2.free 2
    have z0 := q3.c0
    have z1 := q3.c1
    have z2 := q3.c2
    have hb3 := ((hbw.setCell (p := ⟨G, 0, none⟩) hGw (.int .i64 y.kind)).setCell (p := ⟨G, 1, none⟩) hGw (.int .u64 (y.num : Int))).setCell (p := ⟨G, 2, none⟩) hGw (.string (str y.txt))
    have HB3 := Lib.hid hb3
    have HCG := Lib.hid (show AtPost (y, 0) w (.returned (.tuple #[.agg #[.int .i64 y.kind, .int .u64 (y.num : Int), .string (str y.txt)], .int .i64 0])) _ from ⟨rfl, hb3⟩)
    generalize y.kind = zk at *
    generalize y.num = zn at *
    generalize str y.txt = zx at *
    clear hG hb3 t0 t1 t2
    go_wp2_with fail
    refine (HK1.out).mono ?_
    rintro e w2 ⟨rfl, rfl⟩
    go_wp2_with fail
    refine bodyPost_ret (v := .tuple #[.agg #[.int .i64 zk, .int .u64 (zn : Int), .string zx], .int .i64 0]) (by simp [results, Try.results17, go_sem, z0, z1, z2]) rfl ?_
    rw [HR.out]; exact HCG.out
end Go.Proofs.Ytocgimimmajjhaa
