/- The walks of shred.Assemble's closure, and of tried with it. -/
import Derived.Test.YtmiegikefdfaiaaShA7
namespace Go.Proofs.Ytmiegikefdfaiaa
open Go.RowKit
open Sh (Lv)
set_option linter.unusedVariables false

structure Kp (w w' : World) (P : Nat → Prop) : Prop where
  os : w'.os = w.os
  tape : w'.tape = w.tape
  output : w'.output = w.output
  size : w.heap.size ≤ w'.heap.size
  block : ∀ i, i < w.heap.size → ¬ P i → w'.heap[i]? = w.heap[i]?
theorem Fr.kp {S C : Nat} {w w' : World} (h : Fr S C w w' [] []) (P : Nat → Prop) (hP : P S ∧ P C) : Kp w w' P := ⟨h.os, h.tape, h.output, h.size, fun i hi hn => h.block i hi (fun e => by
  rcases out_nil e with e | e
  · exact hn (e ▸ hP.1)
  · exact hn (e ▸ hP.2))⟩
theorem Kp.trans {w w1 w2 : World} {P : Nat → Prop} (h : Kp w w1 P) (k : Kp w1 w2 P) : Kp w w2 P :=
  ⟨k.os.trans h.os, k.tape.trans h.tape, k.output.trans h.output, Nat.le_trans h.size k.size, fun i hi hn => (k.block i (Nat.lt_of_lt_of_le hi h.size) hn).trans (h.block i hi hn)⟩
theorem Kp.set {w w1 : World} {P : Nat → Prop} (h : Kp w w1 P) (b i : Nat) (x : Value) (hb : P b ∨ w.heap.size ≤ b) : Kp w (w1.setCell ⟨b, i, none⟩ x) P :=
  ⟨h.os, h.tape, h.output, by simpa [World.setCell] using h.size, fun j hj hn => (heap_set_ne _ _ _ _ _ (fun e => by subst e; rcases hb with hb | hb; exact hn hb; omega)).trans (h.block j hj hn)⟩
theorem Kp.of_below {w w' : World} {P : Nat → Prop} (h : Below w.heap.size w w') : Kp w w' P := ⟨h.os, h.tape, h.output, h.size, fun i hi _ => h.block i hi⟩
theorem Kp.below {w w' : World} {P : Nat → Prop} {G : Nat} (h : Kp w w' P) (hG : G ≤ w.heap.size) (hP : ∀ i, i < G → ¬ P i) : Below G w w' := ⟨h.os, h.tape, h.output, h.size, fun i hi => h.block i (by omega) (hP i hi)⟩
def in3 (S C Q : Nat) (i : Nat) : Prop := i = S ∨ i = C ∨ i = Q
def AsmPost (w : World) (S C Q : Nat) (ok er : Ending) (R : Option (List (List Nat))) (e : Ending) (w' : World) : Prop :=
  Kp w w' (in3 S C Q) ∧ match R with
  | none => e = er ∧ Cel w' Q #[.slice none 0 0] 23
  | some outs => e = ok ∧ ∃ ov rvs, Cel w' Q #[ov] 23 ∧ Outs w' w.heap.size S C ov rvs outs
theorem Cel.set1 {w : World} {b : Nat} {c0 : Value} {t : TypeId} (h : Cel w b #[c0] t) (x : Value) : Cel (w.setCell ⟨b, 0, none⟩ x) b #[x] t := by
  unfold Cel at *; simp [World.setCell, Array.getElem?_modify, h]

set_option maxHeartbeats 2000000 in
set_option maxRecDepth 100000 in
theorem asm1_any (w : World) (B S C N cN : Nat) (lefts : List (List Lv)) (vs : List Value) (v : Value) (h : Ahd w B S C N cN lefts vs v) (hN1 : 0 < N)
    (k : Sh.F) (kv : Value) (hk : KidsOf w (fun i => i < B) k kv 0 0 0) (hne : k ≠ .nil) (hok : Sh.ok k) (hsz : Sh.size k ≤ 500) (hN : lv1 k = N)
    (Tb Q : Nat) (hTb : Cel w Tb (nx 0 0 0 0 k kv).toArray 50) (hQ : Cel w Q #[.slice none 0 0] 23) (hd : S ≠ Q ∧ C ≠ Q) :
    Calls Try.prog 34 #[.pointer (some ⟨S, 0, none⟩), .pointer (some ⟨Tb, 0, none⟩), .pointer (some ⟨Q, 0, none⟩)] w (AsmPost w S C Q (.returned (.tuple #[])) (gaveUp 1) (Sh.asR k lefts)) := by
  obtain ⟨R, hR⟩ : ∃ R, Sh.asR k lefts = R := ⟨_, rfl⟩
  have HCL := arecords_any w B S C N cN lefts vs v h hN1 k kv hk hne hok hsz hN
  rw [hR] at HCL ⊢
  obtain ⟨b', capk, M, hkv⟩ : ∃ b' capk M, kv = .slice (some ⟨b', 0, none⟩) M capk := by
    rcases hk with ⟨h1, -⟩ | ⟨-, b', capk, h1, -⟩
    · exact absurd h1 hne
    · exact ⟨_, _, _, h1⟩
  subst hkv
  obtain ⟨T, hT⟩ : ∃ T, T = lv1 k := ⟨_, rfl⟩
  simp only [nag, nx, dn, rn, Nat.zero_add, if_true, Int.natCast_zero] at HCL hTb
  rw [← hT] at HCL hTb
  have g0 : w.cell? ⟨Tb, 0, none⟩ = some (.int .i64 0) := hTb.c 0
  have g1 : w.cell? ⟨Tb, 1, none⟩ = some (.int .i64 0) := hTb.c 1
  have g2 : w.cell? ⟨Tb, 2, none⟩ = some (.int .i64 0) := hTb.c 2
  have g3 : w.cell? ⟨Tb, 3, none⟩ = some (.int .i64 0) := hTb.c 3
  have g4 : w.cell? ⟨Tb, 4, none⟩ = some (.int .i64 (T : Nat)) := hTb.c 4
  have g5 : w.cell? ⟨Tb, 5, none⟩ = some (.slice (some ⟨b', 0, none⟩) M capk) := hTb.c 5
  have HCC := Lib.hid HCL
  have HQ := Lib.hid hQ
  have HS := Lib.hid h
  have HD := Lib.hid hd
  clear HCL hTb hQ h hd hT hk hR
  go_enter Try.func34, Try.ntmps34
  go_wp2_with fail
  refine HCC.out.mono ?_
  rintro e w5 ⟨hfr, hm⟩
  have hno : ¬ Out S C [] Q := fun e => by rcases out_nil e with e | e; exact HD.out.1 e.symm; exact HD.out.2 e.symm
  have CQ := HQ.out.fr hno hfr
  have HK := Lib.hid (hfr.kp (in3 S C Q) ⟨Or.inl rfl, Or.inr (Or.inl rfl)⟩)
  cases R with
  | none =>
    obtain rfl := hm
    refine And.intro rfl ?_
    exact (⟨HK.out, rfl, CQ⟩ : AsmPost w S C Q (.returned (.tuple #[])) (gaveUp 1) none (gaveUp 1) w5)
  | some outs =>
    obtain ⟨ov, rvs, rfl, ho⟩ := hm
    obtain ⟨aa, ca, rfl⟩ := rv_form ho.o
    have c0 : w5.cell? ⟨Q, 0, none⟩ = some (.slice none 0 0) := CQ.c 0
    have cz := CQ.free 0
    have HCQ := Lib.hid CQ
    have HO := Lib.hid ho
    have hQw := HQ.out.lt
    clear CQ ho hfr
    obtain ⟨n0, hn0⟩ : ∃ n0, n0 = outs.length := ⟨_, rfl⟩
    rw [← hn0]
    have HN0 := Lib.hid hn0
    clear hn0
    go_wp2_with fail
    refine bodyPost_ret (v := .tuple #[]) (by simp [results, Try.results34, go_sem]) rfl ⟨HK.out.set Q 0 _ (Or.inl (Or.inr (Or.inr rfl))), rfl, .slice aa n0 ca, rvs, HCQ.out.set1 _, ?_⟩
    have h := HO.out
    rw [← HN0.out] at h
    refine ⟨own_block h.o (fun i hi => heap_set_ne _ _ _ _ _ (fun e => by have := (h.o.lt i hi).1; omega)), fun j hj => own_block (h.r j hj) (fun i hi => heap_set_ne _ _ _ _ _ (fun e => by have := ((h.r j hj).lt i hi).1; omega)), h.fo, h.fr, h.ap, h.ao⟩

set_option maxHeartbeats 2000000 in
set_option maxRecDepth 100000 in
theorem tried_asm (w : World) (B S C N cN : Nat) (lefts : List (List Lv)) (vs : List Value) (v : Value) (h : Ahd w B S C N cN lefts vs v) (hN1 : 0 < N)
    (k : Sh.F) (kv : Value) (hk : KidsOf w (fun i => i < B) k kv 0 0 0) (hne : k ≠ .nil) (hok : Sh.ok k) (hsz : Sh.size k ≤ 500) (hN : lv1 k = N)
    (Tb Q : Nat) (hTb : Cel w Tb (nx 0 0 0 0 k kv).toArray 50) (hQ : Cel w Q #[.slice none 0 0] 23) (hd : S ≠ Q ∧ C ≠ Q) :
    Calls Try.prog 24 #[.func (.func 34) #[] #[.pointer (some ⟨S, 0, none⟩), .pointer (some ⟨Tb, 0, none⟩), .pointer (some ⟨Q, 0, none⟩)]] w (AsmPost w S C Q (.returned (.int .i64 0)) (.returned (.int .i64 1)) (Sh.asR k lefts)) := by
  have hmf : ∀ (fn : Fn) (first cap : Array Value) (w : World), (Instr.makeFunc fn first cap).run Try.prog w = .ok (.func fn first cap) w := fun _ _ _ _ => rfl
  obtain ⟨R, hR⟩ : ∃ R, Sh.asR k lefts = R := ⟨_, rfl⟩
  rw [hR]
  have E1 := cel_new w #[.int .i64 0] 24
  have hbl := (Below.refl w.heap.size w).alloc (Nat.le_refl _) (.cells #[.int .i64 0] 24)
  have K1 := hk.keep (fun i (hi : i < B) => heap_alloc_old w (.cells #[.int .i64 0] 24) (by have := h.bs; have := h.s.lt; omega))
  have C1 := asm1_any (w.alloc (.cells #[.int .i64 0] 24)) B S C N cN lefts vs v (h.next hbl) hN1 k kv K1 hne hok hsz hN Tb Q (hTb.next hbl) (hQ.next hbl) hd
  rw [hR] at C1
  have hne3 : ¬ in3 S C Q w.heap.size := fun e => by have := h.s.lt; have := h.c.lt; have := hQ.lt; rcases e with e | e | e <;> omega
  have HQl := hQ.lt
  have HC1 := Lib.hid C1
  have HE1 := Lib.hid E1
  have HB1 := Lib.hid hbl
  clear h hk hTb hQ hd hR E1 K1 C1 hbl
  go_enter_defers Try.func24, Try.ntmps24
  go_wp2_with fail
  refine HC1.out.mono ?_
  rintro e w5 ⟨hkp, hm⟩
  have E5 : Cel w5 w.heap.size #[.int .i64 0] 24 := (hkp.block w.heap.size (by simp) hne3).trans HE1.out
  have c5 : w5.cell? ⟨w.heap.size, 0, none⟩ = some (.int .i64 0) := E5.c 0
  have z5 := E5.free 0
  have HK5 := Lib.hid ((Kp.of_below HB1.out).trans hkp)
  cases R with
  | none =>
    obtain ⟨rfl, hq⟩ := hm
    change bodyPostD _ _ _ (Exit.panic _) _ w5
    refine _root_.Go.leaves_cons (f := 41) (args := #[.pointer (some ⟨w.heap.size, 0, none⟩)]) (by simp) (by simp [go_sem]) ?_
    refine (caught_panicking ⟨w.heap.size, 0, none⟩ 0 1 [] w5 c5 z5).mono ?_
    rintro e u' w'' ⟨rfl, rfl, rfl⟩
    have HP := Lib.hid (show AsmPost w S C Q (.returned (.int .i64 0)) (.returned (.int .i64 1)) none (.returned (.int .i64 1)) (w5.setCell ⟨w.heap.size, 0, none⟩ (.int .i64 1)) from ⟨HK5.out.set _ _ _ (Or.inr (Nat.le_refl _)), rfl, hq.far _ _ _ (by omega)⟩)
    simp [Leaves, settle, results, Try.results24, go_sem, c5]
    exact HP.out
  | some outs =>
    obtain ⟨rfl, ov, rvs, hq, ho⟩ := hm
    go_wp2_with fail
    refine _root_.Go.leaves_cons (f := 41) (args := #[.pointer (some ⟨w.heap.size, 0, none⟩)]) (by simp) (by simp [go_sem]) ?_
    refine (caught_idle ⟨w.heap.size, 0, none⟩ _).mono ?_
    rintro e u' w'' ⟨rfl, rfl, rfl⟩
    have HP := Lib.hid (show AsmPost w S C Q (.returned (.int .i64 0)) (.returned (.int .i64 1)) (some outs) (.returned (.int .i64 0)) (w5.setCell ⟨w.heap.size, 0, none⟩ (.int .i64 0)) from ⟨HK5.out.set _ _ _ (Or.inr (Nat.le_refl _)), rfl, ov, rvs, hq.far _ _ _ (by omega), by
      have h := ho
      refine Outs.mono (G := (w.alloc (.cells #[.int .i64 0] 24)).heap.size) ?_ (by simp)
      refine ⟨own_block h.o (fun i hi => heap_set_ne _ _ _ _ _ (fun e => by have := (h.o.lt i hi).1; simp at this; omega)), fun j hj => own_block (h.r j hj) (fun i hi => heap_set_ne _ _ _ _ _ (fun e => by have := ((h.r j hj).lt i hi).1; simp at this; omega)), h.fo, h.fr, h.ap, h.ao⟩⟩)
    simp [Leaves, settle, results, Try.results24, go_sem, c5]
    exact HP.out
end Go.Proofs.Ytmiegikefdfaiaa
