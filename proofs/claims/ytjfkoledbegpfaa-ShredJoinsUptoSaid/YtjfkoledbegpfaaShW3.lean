/- The walks of shred.tree, Leaves. -/
import Derived.Test.YtjfkoledbegpfaaShW1
import Derived.Test.YtjfkoledbegpfaaShW2
namespace Go.Proofs.Ytjfkoledbegpfaa
open Go.RowKit
set_option linter.unusedVariables false

def node0 : Value := .agg #[.int .i64 0, .int .i64 0, .int .i64 0, .int .i64 0, .int .i64 0, .slice none 0 0]
def TreePost (w : World) (l : List Sh.Fd) (e : Ending) (w' : World) : Prop :=
  Below w.heap.size w w' ∧ ((Sh.check l ≠ 0 ∧ e = .returned (.tuple #[node0, .int .i64 (Sh.check l : Nat)])) ∨
   (Sh.check l = 0 ∧ ∃ k kv, k ≠ .nil ∧ Sh.ok (.cons 0 k .nil) ∧ Sh.flat (.cons 0 k .nil) = l ∧ l.length ≤ 12 ∧ e = .returned (.tuple #[nag 0 0 0 0 k kv, .int .i64 0]) ∧ KidsOf w' (fun i => w.heap.size ≤ i ∧ i < w'.heap.size) k kv 0 0 0))

set_option maxHeartbeats 2000000 in
set_option maxRecDepth 100000 in
theorem tree_any (a : Option Addr) (cap : Nat) (l : List Sh.Fd) (w : World) (hcap : l.length ≤ cap) (hcm : cap ≤ maxLen) (hu : Fds w w.heap.size a l) :
    Calls Try.prog 23 #[.slice a l.length cap] w (TreePost w l) := by
  have hz : Sh.check l ≤ 7 := by
    have := Sh.chkL_le l 1
    unfold Sh.check
    split
    · omega
    · split
      · omega
      · split <;> omega
  have hl : l.length ≤ maxLen := Nat.le_trans hcap hcm
  have HL := Lib.hid hl
  have HU := Lib.hid hu
  have HZ := Lib.hid hz
  clear hu hl hz
  go_enter Try.func23, Try.ntmps23
  go_wp2_with fail
  have R1 := cel_new w #[.int .i64 0, .int .i64 0, .int .i64 0, .int .i64 0, .int .i64 0, .slice none 0 0] 50
  have B1 := (Below.refl w.heap.size w).alloc (Nat.le_refl _) (.cells #[.int .i64 0, .int .i64 0, .int .i64 0, .int .i64 0, .int .i64 0, .slice none 0 0] 50)
  have S1 : (w.alloc (.cells #[.int .i64 0, .int .i64 0, .int .i64 0, .int .i64 0, .int .i64 0, .slice none 0 0] 50)).heap.size = w.heap.size + 1 := by simp
  generalize w.alloc (.cells #[.int .i64 0, .int .i64 0, .int .i64 0, .int .i64 0, .int .i64 0, .slice none 0 0] 50) = w1 at *
  refine (shcheck_any a cap l w1 HL.out ((HU.out.below B1).mono B1.size)).mono ?_
  rintro e w2 ⟨rfl, hb2⟩
  have R2 := R1.next hb2
  have B2 := B1.trans (hb2.mono (by omega))
  have S2 := hb2.size
  have HU2 := Lib.hid (HU.out.below B2)
  clear R1 B1 hb2
  have HR2 := Lib.hid R2
  have HB2 := Lib.hid B2
  have z0 := R2.free 0
  have z1 := R2.free 1
  have z2 := R2.free 2
  have z3 := R2.free 3
  have z4 := R2.free 4
  have z5 := R2.free 5
  have r0 : w2.cell? ⟨w.heap.size, 0, none⟩ = some (.int .i64 0) := R2.c 0
  have r1 : w2.cell? ⟨w.heap.size, 1, none⟩ = some (.int .i64 0) := R2.c 1
  have r2 : w2.cell? ⟨w.heap.size, 2, none⟩ = some (.int .i64 0) := R2.c 2
  have r3 : w2.cell? ⟨w.heap.size, 3, none⟩ = some (.int .i64 0) := R2.c 3
  have r4 : w2.cell? ⟨w.heap.size, 4, none⟩ = some (.int .i64 0) := R2.c 4
  have r5 : w2.cell? ⟨w.heap.size, 5, none⟩ = some (.slice none 0 0) := R2.c 5
  have rl := R2.lt
  clear R2 B2
  by_cases h0 : Sh.check l = 0
  · obtain ⟨k, hk, hfl, hko, h12⟩ := Sh.check_form h0
    rw [h0]
    have HH := Lib.hid h0
    have HK := Lib.hid hk
    have HFL := Lib.hid hfl
    have HKO := Lib.hid hko
    have H12 := Lib.hid h12
    have hln : l.length = Sh.size k + 1 := by rw [← hfl, Sh.flat_length]; simp [Sh.size]; omega
    have HLN := Lib.hid hln
    clear h0 hk hfl hko hln
    go_wp2_with fail
    have GB := cel_new w2 #[.slice a l.length cap, .int .i64 0] 76
    have GB2 : Gd (w2.alloc (.cells #[.slice a l.length cap, .int .i64 0] 76)) w2.heap.size (.slice a l.length cap) 0 := GB
    have R3 := HR2.out.alloc (.cells #[.slice a l.length cap, .int .i64 0] 76)
    have U3 := (HU2.out.mono (show w.heap.size ≤ w2.heap.size by omega)).below ((Below.refl w2.heap.size w2).alloc (Nat.le_refl _) (.cells #[.slice a l.length cap, .int .i64 0] 76))
    have B3 := HB2.out.alloc (by omega) (.cells #[.slice a l.length cap, .int .i64 0] 76)
    have S3 : (w2.alloc (.cells #[.slice a l.length cap, .int .i64 0] 76)).heap.size = w2.heap.size + 1 := by simp
    generalize w2.alloc (.cells #[.slice a l.length cap, .int .i64 0] 76) = w21 at *
    have h13 := H12.out
    refine (next_any (Sh.size k + 1) 0 k [] a cap 0 0 0 w2.heap.size w21 (by omega) HKO.out (by simp only [List.length_nil]; have := HLN.out; omega) hcm (by have := HLN.out; omega) (by have := HLN.out; omega) (by have := HLN.out; omega)
      (by rw [List.append_nil]; have h := HFL.out; simp only [Sh.flat, List.append_nil] at h; rw [h]; exact U3) (by rw [List.length_nil, Nat.add_zero, ← HLN.out]; exact GB2)).mono ?_
    rintro e w3 ⟨kv, a3, rfl, hkv, -, -, hbt3⟩
    have R4 := R3.but (by omega) hbt3
    have S4 := hbt3.size
    have HR3 := Lib.hid R4
    have HB3 := Lib.hid (show Below w.heap.size w w3 from ⟨hbt3.os.trans B3.os, hbt3.tape.trans B3.tape, hbt3.output.trans B3.output, by omega, fun i hi => (hbt3.block i (by omega) (by omega)).trans (B3.block i hi)⟩)
    have z0 := R4.free 0
    have z1 := R4.free 1
    have z2 := R4.free 2
    have z3 := R4.free 3
    have z4 := R4.free 4
    have z5 := R4.free 5
    have r0 : w3.cell? ⟨w.heap.size, 0, none⟩ = some (.int .i64 0) := R4.c 0
    have r1 : w3.cell? ⟨w.heap.size, 1, none⟩ = some (.int .i64 0) := R4.c 1
    have r2 : w3.cell? ⟨w.heap.size, 2, none⟩ = some (.int .i64 0) := R4.c 2
    have r3 : w3.cell? ⟨w.heap.size, 3, none⟩ = some (.int .i64 0) := R4.c 3
    have r4 : w3.cell? ⟨w.heap.size, 4, none⟩ = some (.int .i64 0) := R4.c 4
    have r5 : w3.cell? ⟨w.heap.size, 5, none⟩ = some (.slice none 0 0) := R4.c 5
    have rl3 := R4.lt
    clear R4 R3 U3 B3 GB GB2 hbt3
    have HKV := Lib.hid hkv
    rcases hkv with ⟨h1, rfl⟩ | ⟨h1, b', capk, rfl, hb', hrow⟩
    · exact absurd h1 HK.out
    · clear h1 hrow
      have HNA := Lib.hid (show (Ending.returned (.tuple #[.agg #[.int .i64 0, .int .i64 0, .int .i64 0, .int .i64 0, .int .i64 (lv1 k : Nat), .slice (some ⟨b', 0, none⟩) (Sh.len k) capk], .int .i64 0])) = .returned (.tuple #[nag 0 0 0 0 k (.slice (some ⟨b', 0, none⟩) (Sh.len k) capk), .int .i64 0]) by simp [nag, nx, dn, rn])
      simp only [nag, nx, dn, rn, if_true]
      go_wp2_with fail
      have CS := cel_six HR3.out (.int .i64 0) (.int .i64 0) (.int .i64 0) (.int .i64 0) (.int .i64 (lv1 k : Nat)) (.slice (some ⟨b', 0, none⟩) (Sh.len k) capk)
      have HBE : Below w.heap.size w ((((((w3.setCell ⟨w.heap.size, 0, none⟩ (.int .i64 0)).setCell ⟨w.heap.size, 1, none⟩ (.int .i64 0)).setCell ⟨w.heap.size, 2, none⟩ (.int .i64 0)).setCell ⟨w.heap.size, 3, none⟩ (.int .i64 0)).setCell ⟨w.heap.size, 4, none⟩ (.int .i64 (lv1 k : Nat))).setCell ⟨w.heap.size, 5, none⟩ (.slice (some ⟨b', 0, none⟩) (Sh.len k) capk)) := ((((((HB3.out.setCell (p := ⟨w.heap.size, 0, none⟩) (Nat.le_refl _) _).setCell (p := ⟨w.heap.size, 1, none⟩) (Nat.le_refl _) _).setCell (p := ⟨w.heap.size, 2, none⟩) (Nat.le_refl _) _).setCell (p := ⟨w.heap.size, 3, none⟩) (Nat.le_refl _) _).setCell (p := ⟨w.heap.size, 4, none⟩) (Nat.le_refl _) _).setCell (p := ⟨w.heap.size, 5, none⟩) (Nat.le_refl _) _)
      have HKE : ∀ i, i ≠ w.heap.size → ((((((w3.setCell ⟨w.heap.size, 0, none⟩ (.int .i64 0)).setCell ⟨w.heap.size, 1, none⟩ (.int .i64 0)).setCell ⟨w.heap.size, 2, none⟩ (.int .i64 0)).setCell ⟨w.heap.size, 3, none⟩ (.int .i64 0)).setCell ⟨w.heap.size, 4, none⟩ (.int .i64 (lv1 k : Nat))).setCell ⟨w.heap.size, 5, none⟩ (.slice (some ⟨b', 0, none⟩) (Sh.len k) capk)).heap[i]? = w3.heap[i]? := by
        intro i h1
        simp [World.setCell, Array.getElem?_modify, Ne.symm h1]
      have hsE : ((((((w3.setCell ⟨w.heap.size, 0, none⟩ (.int .i64 0)).setCell ⟨w.heap.size, 1, none⟩ (.int .i64 0)).setCell ⟨w.heap.size, 2, none⟩ (.int .i64 0)).setCell ⟨w.heap.size, 3, none⟩ (.int .i64 0)).setCell ⟨w.heap.size, 4, none⟩ (.int .i64 (lv1 k : Nat))).setCell ⟨w.heap.size, 5, none⟩ (.slice (some ⟨b', 0, none⟩) (Sh.len k) capk)).heap.size = w3.heap.size := by simp [World.setCell]
      generalize ((((((w3.setCell ⟨w.heap.size, 0, none⟩ (.int .i64 0)).setCell ⟨w.heap.size, 1, none⟩ (.int .i64 0)).setCell ⟨w.heap.size, 2, none⟩ (.int .i64 0)).setCell ⟨w.heap.size, 3, none⟩ (.int .i64 0)).setCell ⟨w.heap.size, 4, none⟩ (.int .i64 (lv1 k : Nat))).setCell ⟨w.heap.size, 5, none⟩ (.slice (some ⟨b', 0, none⟩) (Sh.len k) capk)) = WE at CS HBE HKE hsE ⊢
      have z0 : WE.cell? ⟨w.heap.size, 0, none⟩ = some (.int .i64 0) := CS.c 0
      have z1 : WE.cell? ⟨w.heap.size, 1, none⟩ = some (.int .i64 0) := CS.c 1
      have z2 : WE.cell? ⟨w.heap.size, 2, none⟩ = some (.int .i64 0) := CS.c 2
      have z3 : WE.cell? ⟨w.heap.size, 3, none⟩ = some (.int .i64 0) := CS.c 3
      have z4 : WE.cell? ⟨w.heap.size, 4, none⟩ = some (.int .i64 (lv1 k : Nat)) := CS.c 4
      have z5 : WE.cell? ⟨w.heap.size, 5, none⟩ = some (.slice (some ⟨b', 0, none⟩) (Sh.len k) capk) := CS.c 5
      clear CS
      refine bodyPost_ret (v := .tuple #[.agg #[.int .i64 0, .int .i64 0, .int .i64 0, .int .i64 0, .int .i64 (lv1 k : Nat), (.slice (some ⟨b', 0, none⟩) (Sh.len k) capk)], .int .i64 0]) (by simp [results, Try.results23, go_sem, z0, z1, z2, z3, z4, z5]) rfl ⟨HBE, Or.inr ⟨HH.out, k, (.slice (some ⟨b', 0, none⟩) (Sh.len k) capk), HK.out, HKO.out, HFL.out, H12.out, HNA.out, ?_⟩⟩
      exact KidsOf.wider (fun i hi => ⟨by omega, by rw [hsE]; omega⟩) (HKV.out.keep (fun i hi => HKE i (by omega)))
  · have HH := Lib.hid h0
    obtain ⟨ck, hck⟩ : ∃ ck, ck = Sh.check l := ⟨_, rfl⟩
    rw [← hck] at h0 ⊢
    have HCK := Lib.hid hck
    have hckI : ((ck : Int) != 0) = true := by rw [bne_iff_ne]; omega
    clear hck
    go_wp2_with fail
    have CS := cel_six HR2.out (.int .i64 0) (.int .i64 0) (.int .i64 0) (.int .i64 0) (.int .i64 0) (.slice none 0 0)
    have HBE : Below w.heap.size w ((((((w2.setCell ⟨w.heap.size, 0, none⟩ (.int .i64 0)).setCell ⟨w.heap.size, 1, none⟩ (.int .i64 0)).setCell ⟨w.heap.size, 2, none⟩ (.int .i64 0)).setCell ⟨w.heap.size, 3, none⟩ (.int .i64 0)).setCell ⟨w.heap.size, 4, none⟩ (.int .i64 0)).setCell ⟨w.heap.size, 5, none⟩ (.slice none 0 0)) := ((((((HB2.out.setCell (p := ⟨w.heap.size, 0, none⟩) (Nat.le_refl _) _).setCell (p := ⟨w.heap.size, 1, none⟩) (Nat.le_refl _) _).setCell (p := ⟨w.heap.size, 2, none⟩) (Nat.le_refl _) _).setCell (p := ⟨w.heap.size, 3, none⟩) (Nat.le_refl _) _).setCell (p := ⟨w.heap.size, 4, none⟩) (Nat.le_refl _) _).setCell (p := ⟨w.heap.size, 5, none⟩) (Nat.le_refl _) _)
    generalize ((((((w2.setCell ⟨w.heap.size, 0, none⟩ (.int .i64 0)).setCell ⟨w.heap.size, 1, none⟩ (.int .i64 0)).setCell ⟨w.heap.size, 2, none⟩ (.int .i64 0)).setCell ⟨w.heap.size, 3, none⟩ (.int .i64 0)).setCell ⟨w.heap.size, 4, none⟩ (.int .i64 0)).setCell ⟨w.heap.size, 5, none⟩ (.slice none 0 0)) = WE at CS HBE ⊢
    have z0 : WE.cell? ⟨w.heap.size, 0, none⟩ = some (.int .i64 0) := CS.c 0
    have z1 : WE.cell? ⟨w.heap.size, 1, none⟩ = some (.int .i64 0) := CS.c 1
    have z2 : WE.cell? ⟨w.heap.size, 2, none⟩ = some (.int .i64 0) := CS.c 2
    have z3 : WE.cell? ⟨w.heap.size, 3, none⟩ = some (.int .i64 0) := CS.c 3
    have z4 : WE.cell? ⟨w.heap.size, 4, none⟩ = some (.int .i64 0) := CS.c 4
    have z5 : WE.cell? ⟨w.heap.size, 5, none⟩ = some (.slice none 0 0) := CS.c 5
    clear CS
    refine bodyPost_ret (v := .tuple #[node0, .int .i64 (ck : Nat)]) (by simp [node0, results, Try.results23, go_sem, z0, z1, z2, z3, z4, z5]) rfl ⟨HBE, Or.inl ⟨HH.out, by rw [HCK.out]⟩⟩

/-- a form's leaves; none, if it is no form -/
def lvn (l : List Sh.Fd) : Nat := if Sh.check l = 0 then (l.filter fun x => x.2 = 0).length else 0
theorem lvn_form {l : List Sh.Fd} {k : Sh.F} (h0 : Sh.check l = 0) (hk : k ≠ .nil) (h : Sh.flat (.cons 0 k .nil) = l) : lvn l = lv1 k := by
  unfold lvn
  rw [if_pos h0, ← h, ← Sh.leaves_count]
  cases k with
  | nil => exact absurd rfl hk
  | cons r k' s => rfl

set_option maxHeartbeats 2000000 in
set_option maxRecDepth 100000 in
theorem leaves_any (a : Option Addr) (cap : Nat) (l : List Sh.Fd) (w : World) (hcap : l.length ≤ cap) (hcm : cap ≤ maxLen) (hu : Fds w w.heap.size a l) :
    Calls Try.prog 11 #[.slice a l.length cap] w fun e w' => e = .returned (.tuple #[.int .i64 (lvn l : Nat), .int .i64 (Sh.check l : Nat)]) ∧ Below w.heap.size w w' := by
  have HT := Lib.hid (tree_any a cap l w hcap hcm hu)
  clear hu
  go_enter Try.func11, Try.ntmps11
  go_wp2_with fail
  refine HT.out.mono ?_
  rintro e w1 ⟨hb, ⟨h0, rfl⟩ | ⟨h0, k, kv, hk, hko, hfl, h12, rfl, hkv⟩⟩
  · have HR := Lib.hid (show lvn l = 0 by unfold lvn; rw [if_neg h0])
    have HB := Lib.hid hb
    unfold node0
    obtain ⟨ck, hck⟩ : ∃ ck, ck = Sh.check l := ⟨_, rfl⟩
    rw [← hck] at h0 ⊢
    have HCK := Lib.hid hck
    clear h0 hb hck
    go_wp2_with fail
    refine bodyPost_ret (v := .tuple #[.int .i64 0, .int .i64 (ck : Nat)]) (by simp [results, Try.results11, go_sem]) rfl ⟨by rw [HR.out, HCK.out]; rfl, ?_⟩
    exact HB.out.alloc HB.out.size _
  · have HR := Lib.hid (lvn_form h0 hk hfl)
    have HC := Lib.hid h0
    have HB := Lib.hid hb
    have hN : k ≠ .nil := hk
    have HX := Lib.hid (show (lvn l : Nat) = lv1 k from HR.out)
    rcases hkv with ⟨h1, rfl⟩ | ⟨h1, b', capk, rfl, hb', hrow⟩
    · exact absurd h1 hk
    simp only [nag, nx, dn, rn, if_true]
    clear hrow hb' h1 hk hb h0 hN
    go_wp2_with fail
    refine bodyPost_ret (v := .tuple #[.int .i64 (lv1 k : Nat), .int .i64 0]) (by simp [results, Try.results11, go_sem]) rfl ⟨by rw [HR.out, HC.out]; rfl, ?_⟩
    exact HB.out.alloc HB.out.size _
end Go.Proofs.Ytjfkoledbegpfaa
