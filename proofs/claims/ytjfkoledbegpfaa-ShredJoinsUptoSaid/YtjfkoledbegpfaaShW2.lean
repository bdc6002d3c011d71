/- The walk of (*gardener).next: the tree of a form. -/
import Derived.Deep.AppendLies
import Derived.Deep.RegionLaw
import Derived.BigRegion
import Derived.Test.YtjfkoledbegpfaaShGd
namespace Go.Proofs.Ytjfkoledbegpfaa
open Go.RowKit
set_option linter.unusedVariables false

def NextPost (w : World) (G r d p c : Nat) (k : Sh.F) (rest : List Sh.Fd) (cap : Nat) (e : Ending) (w' : World) : Prop :=
  ∃ kv a' , e = .returned (nag r d p c k kv) ∧ KidsOf w' (fun i => w.heap.size ≤ i ∧ i < w'.heap.size) k kv (dn r d) (rn r p) c ∧ Gd w' G (.slice a' rest.length (cap - 1 - Sh.size k)) (c + lv1 k) ∧ Fds w' G a' rest ∧ But G w w'

set_option maxHeartbeats 8000000 in
set_option maxRecDepth 100000 in
theorem next_any (n : Nat) : ∀ (r : Nat) (k : Sh.F) (rest : List Sh.Fd) (a : Option Addr) (cap d p c G : Nat) (w : World), Sh.size k < n → Sh.ok (.cons r k .nil) →
    Sh.size k + rest.length + 1 ≤ cap → cap ≤ maxLen → d + n ≤ 1000 → p + n ≤ 1000 → c + Sh.size k ≤ 1000 →
    Fds w G a (((r : Int), (Sh.len k : Int)) :: (Sh.flat k ++ rest)) → Gd w G (.slice a (Sh.size k + rest.length + 1) cap) c →
    Calls Try.prog 40 #[.pointer (some ⟨G, 0, none⟩), .int .i64 d, .int .i64 p] w (NextPost w G r d p c k rest cap) := by
  induction n with
  | zero => intro r k rest a cap d p c G w h; omega
  | succ m ih =>
    intro r k rest a cap d p c G w hsz hok hcap hcm hd hp hc hf hg
    have IH := Lib.hid ih
    have hlen : (((r : Int), (Sh.len k : Int)) :: (Sh.flat k ++ rest)).length = Sh.size k + rest.length + 1 := by
      rw [List.length_cons, List.length_append, Sh.flat_length]
    have HF := Lib.hid hf
    obtain ⟨b, off, rfl, hb, hcc⟩ := hf (by simp)
    have c0 : w.cell? ⟨b, off, none⟩ = some (.int .i64 (r : Int)) := by have := (hcc 0 (by simp)).1; simpa using this
    have c1 : w.cell? ⟨b, off + 1, none⟩ = some (.int .i64 (Sh.len k : Int)) := by have := (hcc 0 (by simp)).2; simpa using this
    obtain ⟨A, hA⟩ : ∃ A, (if cap = 1 then some (⟨b, off, none⟩ : Addr) else some ⟨b, off + 2, none⟩) = A := ⟨_, rfl⟩
    have HFA := Lib.hid (show Fds w G A (Sh.flat k ++ rest) by
      have := Fds.cutIf HF.out (c := cap) (by rw [hlen]; exact hcap)
      rw [hA] at this; exact this)
    have g0 := hg.c0
    have g1 := hg.c1
    have gz := hg.free 0
    have hGl := hg.lt
    have hI : (0 : Int) < ((Sh.size k + rest.length + 1 : Nat) : Int) := by omega
    have hI1 : (1 : Int) ≤ ((Sh.size k + rest.length + 1 : Nat) : Int) := by omega
    have HG := Lib.hid hg
    have hn1 : ¬ b = w.heap.size := by omega
    have hbl : b < w.heap.size := by omega
    have hbl1 : b < w.heap.size + 1 := by omega
    have hGl1 : G < w.heap.size + 1 := by omega
    have hn6 : ¬ b = w.heap.size + 1 := by omega
    have hn7 : ¬ b = G := by omega
    have hn8 : ¬ G = b := by omega
    have hn2 : ¬ G = w.heap.size := by omega
    have hn3 : ¬ w.heap.size = G := by omega
    have hn4 : ¬ w.heap.size + 1 = G := by omega
    have hn5 : ¬ G = w.heap.size + 1 := by omega
    unfold maxLen at hcm
    clear hcc ih hf hg
    have hr2 : r ≤ 2 := hok.1
    have hk4 : Sh.len k ≤ 4 := hok.2.1
    have hokk := Lib.hid hok.2.2.1
    have HLK := Lib.hid hlen
    clear hok hlen
    generalize hL : Sh.size k + rest.length + 1 = L at *
    generalize hM : Sh.len k = M at *
    have hrc : r = 0 ∨ r = 1 ∨ r = 2 := by omega
    have hwd : IntKind.i64.wrap ((d : Int) + 1) = (d : Int) + 1 := IntWalk.i64_in _ (by omega)
    have hwp : IntKind.i64.wrap ((p : Int) + 1) = (p : Int) + 1 := IntWalk.i64_in _ (by omega)
    obtain ⟨D, hD⟩ : ∃ D, D = dn r d := ⟨_, rfl⟩
    obtain ⟨P, hP⟩ : ∃ P, P = rn r p := ⟨_, rfl⟩
    have HL2 := Lib.hid hL
    have HM2 := Lib.hid hM
    have g2 := (HG.out.s0 (.slice A (L - 1) (cap - 1)))
    have hb2 : But G w (w.setCell ⟨G, 0, none⟩ (.slice A (L - 1) (cap - 1))) := (But.refl G w).set G 0 _ (Or.inl rfl)
    have hs2 : (w.setCell ⟨G, 0, none⟩ (.slice A (L - 1) (cap - 1))).heap.size = w.heap.size := by simp [World.setCell]
    have F2 := HFA.out.but (Nat.le_refl _) hGl hb2
    have HG2 := Lib.hid g2
    have HB2 := Lib.hid hb2
    have HF2 := Lib.hid F2
    clear hL hM g2 hb2 F2
    have hrD : (r = 0 → D = d) ∧ (r ≠ 0 → D = d + 1) ∧ (r = 2 → P = p + 1) ∧ (r ≠ 2 → P = p) := by
      rw [hD, hP]; unfold dn rn
      refine ⟨fun h => if_pos h, fun h => if_neg h, fun h => if_pos h, fun h => if_neg h⟩
    have hwd2 : r ≠ 0 → IntKind.i64.wrap ((d : Int) + 1) = (D : Int) := fun h => by rw [hwd, hrD.2.1 h]; simp
    have hwp2 : r = 2 → IntKind.i64.wrap ((p : Int) + 1) = (P : Int) := fun h => by rw [hwp, hrD.2.2.1 h]; simp
    have HDP := Lib.hid (And.intro hD hP)
    have hDb : D ≤ d + 1 := by rw [hD]; unfold dn; split <;> omega
    have hPb : P ≤ p + 1 := by rw [hP]; unfold rn; split <;> omega
    obtain ⟨e0, e1, e2, e3⟩ := hrD
    clear hwd hwp hD hP
    rcases hrc with rfl | rfl | rfl
    · have := e0 rfl; subst this
      have := e3 (by omega); subst this
      clear e0 e1 e2 e3 hwd2 hwp2
      go_enter Try.func40, Try.ntmps40
      go_wp2_with fail
      have R3 := (cel_new (w.setCell ⟨G, 0, none⟩ (.slice A (L - 1) (cap - 1))) #[.int .i64 0, .int .i64 0, .int .i64 0, .int .i64 0, .int .i64 0, .slice none 0 0] 50).alloc (.cells #[.int .i64 0, .int .i64 M] 32)
      have F3 := cel_new1 (w.setCell ⟨G, 0, none⟩ (.slice A (L - 1) (cap - 1))) (.cells #[.int .i64 0, .int .i64 0, .int .i64 0, .int .i64 0, .int .i64 0, .slice none 0 0] 50) #[.int .i64 0, .int .i64 M] 32
      have G3 := (HG2.out.alloc (.cells #[.int .i64 0, .int .i64 0, .int .i64 0, .int .i64 0, .int .i64 0, .slice none 0 0] 50)).alloc (.cells #[.int .i64 0, .int .i64 M] 32)
      have B3 := (HB2.out.alloc (.cells #[.int .i64 0, .int .i64 0, .int .i64 0, .int .i64 0, .int .i64 0, .slice none 0 0] 50)).alloc (.cells #[.int .i64 0, .int .i64 M] 32)
      have A3 := HF2.out.but (w' := ((w.setCell ⟨G, 0, none⟩ (.slice A (L - 1) (cap - 1))).alloc (.cells #[.int .i64 0, .int .i64 0, .int .i64 0, .int .i64 0, .int .i64 0, .slice none 0 0] 50)).alloc (.cells #[.int .i64 0, .int .i64 M] 32)) (Nat.le_refl _) (by rw [hs2]; exact hGl) (((But.refl _ _).alloc _).alloc _)
      have S3 : (((w.setCell ⟨G, 0, none⟩ (.slice A (L - 1) (cap - 1))).alloc (.cells #[.int .i64 0, .int .i64 0, .int .i64 0, .int .i64 0, .int .i64 0, .slice none 0 0] 50)).alloc (.cells #[.int .i64 0, .int .i64 M] 32)).heap.size = w.heap.size + 2 := by simp [hs2]
      rw [hs2] at R3 F3
      generalize ((w.setCell ⟨G, 0, none⟩ (.slice A (L - 1) (cap - 1))).alloc (.cells #[.int .i64 0, .int .i64 0, .int .i64 0, .int .i64 0, .int .i64 0, .slice none 0 0] 50)).alloc (.cells #[.int .i64 0, .int .i64 M] 32) = X at *
      clear HG2 HB2 HF2 hs2 c0 c1 g0 g1 gz
      have f0 : X.cell? ⟨w.heap.size + 1, 0, none⟩ = some (.int .i64 0) := by have := F3.c 0; simpa using this
      have f1 : X.cell? ⟨w.heap.size + 1, 1, none⟩ = some (.int .i64 (M : Int)) := by have := F3.c 1; simpa using this
      have g1 := G3.c1
      have f2 : w.heap.size + 1 < X.heap.size := by omega
      have f3 : G < X.heap.size := by omega
      have f4 : ¬ w.heap.size + 1 = X.heap.size := by omega
      have f5 : ¬ G = X.heap.size := by omega
      have HF4 := Lib.hid F3
      have HG4 := Lib.hid G3
      have HR4 := Lib.hid R3
      have HB4 := Lib.hid B3
      have HA4 := Lib.hid A3
      clear F3 G3 R3 B3 A3
      go_region
      go_wp2_with fail
      go_loopw [44] (fun i wr => ∃ (j : Nat) (done s : Sh.F) (xs : List Value) (v : Value) (a' : Option Addr) (cx : Nat), Sh.app done s = k ∧ Sh.len done = j ∧ i = .int .i64 j ∧ Cel wr X.heap.size #[.int .i64 0, .int .i64 (D : Int), .int .i64 (P : Int), .int .i64 (c : Int), .int .i64 0, v] 50 ∧ wr.ownsRow (X.heap.size + 1) 50 6 v j xs ∧ (j = 0 → v = .slice none 0 0) ∧ Vals wr (fun i => X.heap.size + 1 ≤ i ∧ i < wr.heap.size ∧ some i ≠ v.ownBlock) done xs D P c ∧ Gd wr G (.slice a' (Sh.size s + rest.length) cx) (c + Sh.leaves done) ∧ cx = cap - 1 - Sh.size done ∧ Fds wr G a' (Sh.flat s ++ rest) ∧ Cel wr (w.heap.size + 1) #[.int .i64 0, .int .i64 M] 32 ∧ Cel wr w.heap.size #[.int .i64 0, .int .i64 0, .int .i64 0, .int .i64 0, .int .i64 0, .slice none 0 0] 50 ∧ But G w wr) (fun i _ => M - (intOf i).toNat)
      case atStart =>
        have hLL : L - 1 = Sh.size k + rest.length := by have := HL2.out; omega
        refine ⟨0, .nil, k, [], .slice none 0 0, A, cap - 1, rfl, rfl, rfl, (cel_new X _ _).drew, ⟨rfl, Or.inl ⟨rfl, rfl⟩⟩, fun _ => rfl, rfl, ?_, by simp [Sh.size], ?_, (HF4.out.alloc _).drew, (HR4.out.alloc _).drew, (HB4.out.alloc _).drew⟩
        · have := (HG4.out.alloc (.cells #[.int .i64 0, .int .i64 (D : Int), .int .i64 (P : Int), .int .i64 (c : Int), .int .i64 0, .slice none 0 0] 50)).drew
          rw [hLL] at this; exact this
        · exact HA4.out.but (Nat.le_refl _) f3 ((But.refl G X).alloc _).drew
      case round =>
        obtain ⟨j, done, s, xs, v, a', cx, hap, rfl, rfl, hN, hown, hv0, hV, hGd, rfl, hFd, hF, hRs, hBt⟩ := hrel
        cases s with
        | nil =>
          rw [Sh.app_nil] at hap
          subst hap
          have hM := HM2.out
          have hjI : ¬ ((Sh.len done : Nat) : Int) < (M : Int) := by omega
          rw [S3] at hN hown hV
          have hNl := hN.lt
          have n4 : wr.frozen? ⟨w.heap.size + 2, 4, none⟩ = false := hN.free 4
          have f1 : wr.cell? ⟨w.heap.size + 1, 1, none⟩ = some (.int .i64 (M : Int)) := by have := hF.c 1; simpa using this
          have q1 := hGd.c1
          have qz := hGd.free 1
          have hlv := Sh.leaves_le done
          have n0 : wr.cell? ⟨w.heap.size + 2, 0, none⟩ = some (.int .i64 0) := by have := hN.c 0; simpa using this
          have n1 : wr.cell? ⟨w.heap.size + 2, 1, none⟩ = some (.int .i64 (D : Int)) := by have := hN.c 1; simpa using this
          have n2 : wr.cell? ⟨w.heap.size + 2, 2, none⟩ = some (.int .i64 (P : Int)) := by have := hN.c 2; simpa using this
          have n3 : wr.cell? ⟨w.heap.size + 2, 3, none⟩ = some (.int .i64 (c : Int)) := by have := hN.c 3; simpa using this
          have n4 : wr.cell? ⟨w.heap.size + 2, 4, none⟩ = some (.int .i64 0) := by have := hN.c 4; simpa using this
          have n5 : wr.cell? ⟨w.heap.size + 2, 5, none⟩ = some v := by have := hN.c 5; simpa using this
          have r0 : wr.cell? ⟨w.heap.size, 0, none⟩ = some (.int .i64 0) := by have := hRs.c 0; simpa using this
          have z0 : wr.frozen? ⟨w.heap.size, 0, none⟩ = false := hRs.free 0
          have r1 : wr.cell? ⟨w.heap.size, 1, none⟩ = some (.int .i64 0) := by have := hRs.c 1; simpa using this
          have z1 : wr.frozen? ⟨w.heap.size, 1, none⟩ = false := hRs.free 1
          have r2 : wr.cell? ⟨w.heap.size, 2, none⟩ = some (.int .i64 0) := by have := hRs.c 2; simpa using this
          have z2 : wr.frozen? ⟨w.heap.size, 2, none⟩ = false := hRs.free 2
          have r3 : wr.cell? ⟨w.heap.size, 3, none⟩ = some (.int .i64 0) := by have := hRs.c 3; simpa using this
          have z3 : wr.frozen? ⟨w.heap.size, 3, none⟩ = false := hRs.free 3
          have r4 : wr.cell? ⟨w.heap.size, 4, none⟩ = some (.int .i64 0) := by have := hRs.c 4; simpa using this
          have z4 : wr.frozen? ⟨w.heap.size, 4, none⟩ = false := hRs.free 4
          have r5 : wr.cell? ⟨w.heap.size, 5, none⟩ = some (.slice none 0 0) := by have := hRs.c 5; simpa using this
          have z5 : wr.frozen? ⟨w.heap.size, 5, none⟩ = false := hRs.free 5
          have HN := Lib.hid hN
          have HOWN := Lib.hid hown
          have HV := Lib.hid hV
          have HGD := Lib.hid hGd
          have HFD := Lib.hid hFd
          have HRS := Lib.hid hRs
          have HBT := Lib.hid hBt
          have HF5 := Lib.hid hF
          clear hN hown hV hGd hFd hRs hBt hF
          have hn1 : ¬ w.heap.size + 1 = w.heap.size + 2 := by omega
          have hn9 : ¬ G = w.heap.size + 2 := by omega
          cases done with
          | nil =>
            have hM0 : (M : Int) = 0 := by rw [← hM]; rfl
            have hv := hv0 rfl
            subst hv
            go_wp2_with fail
            have eT := Lib.hid (show ((.int .i64 ((c : Int) + ((Sh.leaves .nil : Nat) : Int) + 1)) : Value) = .int .i64 ((c + lv1 .nil : Nat) : Int) by simp [Sh.leaves, lv1])
            have CS := cel_six (show Cel ((wr.setCell ⟨G, 1, none⟩ (.int .i64 ((c : Int) + ((Sh.leaves .nil : Nat) : Int) + 1))).setCell ⟨w.heap.size + 2, 4, none⟩ (.int .i64 ((c : Int) + ((Sh.leaves .nil : Nat) : Int) + 1))) w.heap.size #[.int .i64 0, .int .i64 0, .int .i64 0, .int .i64 0, .int .i64 0, .slice none 0 0] 50 from ((HRS.out.far G 1 (.int .i64 ((c : Int) + ((Sh.leaves .nil : Nat) : Int) + 1)) (by omega)).far (w.heap.size + 2) 4 (.int .i64 ((c : Int) + ((Sh.leaves .nil : Nat) : Int) + 1)) (by omega))) (.int .i64 0) (.int .i64 (D : Int)) (.int .i64 (P : Int)) (.int .i64 (c : Int)) (.int .i64 ((c : Int) + ((Sh.leaves .nil : Nat) : Int) + 1)) (.slice none 0 0)
            have HE : ∀ i, i ≠ G → i ≠ w.heap.size + 2 → i ≠ w.heap.size → ((((((((wr.setCell ⟨G, 1, none⟩ (.int .i64 ((c : Int) + ((Sh.leaves .nil : Nat) : Int) + 1))).setCell ⟨w.heap.size + 2, 4, none⟩ (.int .i64 ((c : Int) + ((Sh.leaves .nil : Nat) : Int) + 1))).setCell ⟨w.heap.size, 0, none⟩ (.int .i64 0)).setCell ⟨w.heap.size, 1, none⟩ (.int .i64 (D : Int))).setCell ⟨w.heap.size, 2, none⟩ (.int .i64 (P : Int))).setCell ⟨w.heap.size, 3, none⟩ (.int .i64 (c : Int))).setCell ⟨w.heap.size, 4, none⟩ (.int .i64 ((c : Int) + ((Sh.leaves .nil : Nat) : Int) + 1))).setCell ⟨w.heap.size, 5, none⟩ (.slice none 0 0)).heap[i]? = wr.heap[i]? := by
              intro i h1 h2 h3
              simp [World.setCell, Array.getElem?_modify, Ne.symm h1, Ne.symm h2, Ne.symm h3]
            have HBE : But G w ((((((((wr.setCell ⟨G, 1, none⟩ (.int .i64 ((c : Int) + ((Sh.leaves .nil : Nat) : Int) + 1))).setCell ⟨w.heap.size + 2, 4, none⟩ (.int .i64 ((c : Int) + ((Sh.leaves .nil : Nat) : Int) + 1))).setCell ⟨w.heap.size, 0, none⟩ (.int .i64 0)).setCell ⟨w.heap.size, 1, none⟩ (.int .i64 (D : Int))).setCell ⟨w.heap.size, 2, none⟩ (.int .i64 (P : Int))).setCell ⟨w.heap.size, 3, none⟩ (.int .i64 (c : Int))).setCell ⟨w.heap.size, 4, none⟩ (.int .i64 ((c : Int) + ((Sh.leaves .nil : Nat) : Int) + 1))).setCell ⟨w.heap.size, 5, none⟩ (.slice none 0 0)) := ((((((((HBT.out.set G 1 _ (Or.inl rfl)).set (w.heap.size + 2) 4 _ (Or.inr (by omega))).set w.heap.size 0 _ (Or.inr (Nat.le_refl _))).set w.heap.size 1 _ (Or.inr (Nat.le_refl _))).set w.heap.size 2 _ (Or.inr (Nat.le_refl _))).set w.heap.size 3 _ (Or.inr (Nat.le_refl _))).set w.heap.size 4 _ (Or.inr (Nat.le_refl _))).set w.heap.size 5 _ (Or.inr (Nat.le_refl _)))
            have hsE := Lib.hid (show ((((((((wr.setCell ⟨G, 1, none⟩ (.int .i64 ((c : Int) + ((Sh.leaves .nil : Nat) : Int) + 1))).setCell ⟨w.heap.size + 2, 4, none⟩ (.int .i64 ((c : Int) + ((Sh.leaves .nil : Nat) : Int) + 1))).setCell ⟨w.heap.size, 0, none⟩ (.int .i64 0)).setCell ⟨w.heap.size, 1, none⟩ (.int .i64 (D : Int))).setCell ⟨w.heap.size, 2, none⟩ (.int .i64 (P : Int))).setCell ⟨w.heap.size, 3, none⟩ (.int .i64 (c : Int))).setCell ⟨w.heap.size, 4, none⟩ (.int .i64 ((c : Int) + ((Sh.leaves .nil : Nat) : Int) + 1))).setCell ⟨w.heap.size, 5, none⟩ (.slice none 0 0)).heap.size = wr.heap.size by simp [World.setCell])
            have HGE : Gd ((((((((wr.setCell ⟨G, 1, none⟩ (.int .i64 ((c : Int) + ((Sh.leaves .nil : Nat) : Int) + 1))).setCell ⟨w.heap.size + 2, 4, none⟩ (.int .i64 ((c : Int) + ((Sh.leaves .nil : Nat) : Int) + 1))).setCell ⟨w.heap.size, 0, none⟩ (.int .i64 0)).setCell ⟨w.heap.size, 1, none⟩ (.int .i64 (D : Int))).setCell ⟨w.heap.size, 2, none⟩ (.int .i64 (P : Int))).setCell ⟨w.heap.size, 3, none⟩ (.int .i64 (c : Int))).setCell ⟨w.heap.size, 4, none⟩ (.int .i64 ((c : Int) + ((Sh.leaves .nil : Nat) : Int) + 1))).setCell ⟨w.heap.size, 5, none⟩ (.slice none 0 0)) G (.slice a' rest.length (cap - 1 - Sh.size .nil)) (c + lv1 .nil) := by
              have HG0 := HGD.out
              rw [show Sh.size Sh.F.nil + rest.length = rest.length by simp [Sh.size]] at HG0
              exact ((((((((HG0.s1e _ (c + lv1 .nil) eT.out).far (w.heap.size + 2) 4 (.int .i64 ((c : Int) + ((Sh.leaves .nil : Nat) : Int) + 1)) (by omega)).far w.heap.size 0 (.int .i64 0) (by omega)).far w.heap.size 1 (.int .i64 (D : Int)) (by omega)).far w.heap.size 2 (.int .i64 (P : Int)) (by omega)).far w.heap.size 3 (.int .i64 (c : Int)) (by omega)).far w.heap.size 4 (.int .i64 ((c : Int) + ((Sh.leaves .nil : Nat) : Int) + 1)) (by omega)).far w.heap.size 5 (.slice none 0 0) (by omega))
            have HFE : Fds ((((((((wr.setCell ⟨G, 1, none⟩ (.int .i64 ((c : Int) + ((Sh.leaves .nil : Nat) : Int) + 1))).setCell ⟨w.heap.size + 2, 4, none⟩ (.int .i64 ((c : Int) + ((Sh.leaves .nil : Nat) : Int) + 1))).setCell ⟨w.heap.size, 0, none⟩ (.int .i64 0)).setCell ⟨w.heap.size, 1, none⟩ (.int .i64 (D : Int))).setCell ⟨w.heap.size, 2, none⟩ (.int .i64 (P : Int))).setCell ⟨w.heap.size, 3, none⟩ (.int .i64 (c : Int))).setCell ⟨w.heap.size, 4, none⟩ (.int .i64 ((c : Int) + ((Sh.leaves .nil : Nat) : Int) + 1))).setCell ⟨w.heap.size, 5, none⟩ (.slice none 0 0)) G a' rest := by
              have := HFD.out
              simp only [Sh.flat, List.nil_append] at this
              exact this.keepG (fun i hi => HE i (by omega) (by omega) (by omega))
            generalize ((((((((wr.setCell ⟨G, 1, none⟩ (.int .i64 ((c : Int) + ((Sh.leaves .nil : Nat) : Int) + 1))).setCell ⟨w.heap.size + 2, 4, none⟩ (.int .i64 ((c : Int) + ((Sh.leaves .nil : Nat) : Int) + 1))).setCell ⟨w.heap.size, 0, none⟩ (.int .i64 0)).setCell ⟨w.heap.size, 1, none⟩ (.int .i64 (D : Int))).setCell ⟨w.heap.size, 2, none⟩ (.int .i64 (P : Int))).setCell ⟨w.heap.size, 3, none⟩ (.int .i64 (c : Int))).setCell ⟨w.heap.size, 4, none⟩ (.int .i64 ((c : Int) + ((Sh.leaves .nil : Nat) : Int) + 1))).setCell ⟨w.heap.size, 5, none⟩ (.slice none 0 0)) = WE at CS HE HBE hsE HGE HFE ⊢
            have z0 : WE.cell? ⟨w.heap.size, 0, none⟩ = some (.int .i64 0) := CS.c 0
            have z1 : WE.cell? ⟨w.heap.size, 1, none⟩ = some (.int .i64 (D : Int)) := CS.c 1
            have z2 : WE.cell? ⟨w.heap.size, 2, none⟩ = some (.int .i64 (P : Int)) := CS.c 2
            have z3 : WE.cell? ⟨w.heap.size, 3, none⟩ = some (.int .i64 (c : Int)) := CS.c 3
            have z4 : WE.cell? ⟨w.heap.size, 4, none⟩ = some (.int .i64 ((c : Int) + ((Sh.leaves .nil : Nat) : Int) + 1)) := CS.c 4
            have z5 : WE.cell? ⟨w.heap.size, 5, none⟩ = some (.slice none 0 0) := CS.c 5
            clear CS
            refine bodyPost_ret (v := .agg #[.int .i64 0, .int .i64 (D : Int), .int .i64 (P : Int), .int .i64 (c : Int), (.int .i64 ((c : Int) + ((Sh.leaves .nil : Nat) : Int) + 1)), (.slice none 0 0)]) (by simp [results, Try.results40, go_sem, z0, z1, z2, z3, z4, z5]) rfl ⟨(.slice none 0 0), a', ?_, ?_, HGE, HFE, HBE⟩
            · unfold nag nx
              rw [eT.out, ← HDP.out.1, ← HDP.out.2]; rfl
            · exact Or.inl ⟨rfl, rfl⟩
          | cons rr kk ss =>
            have hM0 : ¬ (M : Int) = 0 := by rw [← hM]; simp only [Sh.len]; omega
            rcases HOWN.out.2 with ⟨-, h0⟩ | ⟨gk, capk, cur, hv, hgk, hgb, -, -, -, -⟩
            · exact absurd h0 (by simp only [Sh.len]; omega)
            subst hv
            clear hM
            go_wp2_with fail
            have eT := Lib.hid (show ((.int .i64 ((c : Int) + ((Sh.leaves (.cons rr kk ss) : Nat) : Int))) : Value) = .int .i64 ((c + lv1 (.cons rr kk ss) : Nat) : Int) by simp [lv1])
            have CS := cel_six (show Cel (wr.setCell ⟨w.heap.size + 2, 4, none⟩ (.int .i64 ((c : Int) + ((Sh.leaves (.cons rr kk ss) : Nat) : Int)))) w.heap.size #[.int .i64 0, .int .i64 0, .int .i64 0, .int .i64 0, .int .i64 0, .slice none 0 0] 50 from (HRS.out.far (w.heap.size + 2) 4 (.int .i64 ((c : Int) + ((Sh.leaves (.cons rr kk ss) : Nat) : Int))) (by omega))) (.int .i64 0) (.int .i64 (D : Int)) (.int .i64 (P : Int)) (.int .i64 (c : Int)) (.int .i64 ((c : Int) + ((Sh.leaves (.cons rr kk ss) : Nat) : Int))) (.slice (some ⟨gk, 0, none⟩) (Sh.len (.cons rr kk ss)) capk)
            have HE : ∀ i, i ≠ G → i ≠ w.heap.size + 2 → i ≠ w.heap.size → (((((((wr.setCell ⟨w.heap.size + 2, 4, none⟩ (.int .i64 ((c : Int) + ((Sh.leaves (.cons rr kk ss) : Nat) : Int)))).setCell ⟨w.heap.size, 0, none⟩ (.int .i64 0)).setCell ⟨w.heap.size, 1, none⟩ (.int .i64 (D : Int))).setCell ⟨w.heap.size, 2, none⟩ (.int .i64 (P : Int))).setCell ⟨w.heap.size, 3, none⟩ (.int .i64 (c : Int))).setCell ⟨w.heap.size, 4, none⟩ (.int .i64 ((c : Int) + ((Sh.leaves (.cons rr kk ss) : Nat) : Int)))).setCell ⟨w.heap.size, 5, none⟩ (.slice (some ⟨gk, 0, none⟩) (Sh.len (.cons rr kk ss)) capk)).heap[i]? = wr.heap[i]? := by
              intro i h1 h2 h3
              simp [World.setCell, Array.getElem?_modify, Ne.symm h2, Ne.symm h3]
            have HBE : But G w (((((((wr.setCell ⟨w.heap.size + 2, 4, none⟩ (.int .i64 ((c : Int) + ((Sh.leaves (.cons rr kk ss) : Nat) : Int)))).setCell ⟨w.heap.size, 0, none⟩ (.int .i64 0)).setCell ⟨w.heap.size, 1, none⟩ (.int .i64 (D : Int))).setCell ⟨w.heap.size, 2, none⟩ (.int .i64 (P : Int))).setCell ⟨w.heap.size, 3, none⟩ (.int .i64 (c : Int))).setCell ⟨w.heap.size, 4, none⟩ (.int .i64 ((c : Int) + ((Sh.leaves (.cons rr kk ss) : Nat) : Int)))).setCell ⟨w.heap.size, 5, none⟩ (.slice (some ⟨gk, 0, none⟩) (Sh.len (.cons rr kk ss)) capk)) := (((((((HBT.out.set (w.heap.size + 2) 4 _ (Or.inr (by omega))).set w.heap.size 0 _ (Or.inr (Nat.le_refl _))).set w.heap.size 1 _ (Or.inr (Nat.le_refl _))).set w.heap.size 2 _ (Or.inr (Nat.le_refl _))).set w.heap.size 3 _ (Or.inr (Nat.le_refl _))).set w.heap.size 4 _ (Or.inr (Nat.le_refl _))).set w.heap.size 5 _ (Or.inr (Nat.le_refl _)))
            have hsE := Lib.hid (show (((((((wr.setCell ⟨w.heap.size + 2, 4, none⟩ (.int .i64 ((c : Int) + ((Sh.leaves (.cons rr kk ss) : Nat) : Int)))).setCell ⟨w.heap.size, 0, none⟩ (.int .i64 0)).setCell ⟨w.heap.size, 1, none⟩ (.int .i64 (D : Int))).setCell ⟨w.heap.size, 2, none⟩ (.int .i64 (P : Int))).setCell ⟨w.heap.size, 3, none⟩ (.int .i64 (c : Int))).setCell ⟨w.heap.size, 4, none⟩ (.int .i64 ((c : Int) + ((Sh.leaves (.cons rr kk ss) : Nat) : Int)))).setCell ⟨w.heap.size, 5, none⟩ (.slice (some ⟨gk, 0, none⟩) (Sh.len (.cons rr kk ss)) capk)).heap.size = wr.heap.size by simp [World.setCell])
            have HGE : Gd (((((((wr.setCell ⟨w.heap.size + 2, 4, none⟩ (.int .i64 ((c : Int) + ((Sh.leaves (.cons rr kk ss) : Nat) : Int)))).setCell ⟨w.heap.size, 0, none⟩ (.int .i64 0)).setCell ⟨w.heap.size, 1, none⟩ (.int .i64 (D : Int))).setCell ⟨w.heap.size, 2, none⟩ (.int .i64 (P : Int))).setCell ⟨w.heap.size, 3, none⟩ (.int .i64 (c : Int))).setCell ⟨w.heap.size, 4, none⟩ (.int .i64 ((c : Int) + ((Sh.leaves (.cons rr kk ss) : Nat) : Int)))).setCell ⟨w.heap.size, 5, none⟩ (.slice (some ⟨gk, 0, none⟩) (Sh.len (.cons rr kk ss)) capk)) G (.slice a' rest.length (cap - 1 - Sh.size (.cons rr kk ss))) (c + lv1 (.cons rr kk ss)) := by
              have HG0 := HGD.out
              rw [show Sh.size Sh.F.nil + rest.length = rest.length by simp [Sh.size]] at HG0
              rw [show lv1 (.cons rr kk ss) = Sh.leaves (.cons rr kk ss) from rfl]
              exact (((((((HG0.far (w.heap.size + 2) 4 (.int .i64 ((c : Int) + ((Sh.leaves (.cons rr kk ss) : Nat) : Int))) (by omega)).far w.heap.size 0 (.int .i64 0) (by omega)).far w.heap.size 1 (.int .i64 (D : Int)) (by omega)).far w.heap.size 2 (.int .i64 (P : Int)) (by omega)).far w.heap.size 3 (.int .i64 (c : Int)) (by omega)).far w.heap.size 4 (.int .i64 ((c : Int) + ((Sh.leaves (.cons rr kk ss) : Nat) : Int))) (by omega)).far w.heap.size 5 (.slice (some ⟨gk, 0, none⟩) (Sh.len (.cons rr kk ss)) capk) (by omega))
            have HFE : Fds (((((((wr.setCell ⟨w.heap.size + 2, 4, none⟩ (.int .i64 ((c : Int) + ((Sh.leaves (.cons rr kk ss) : Nat) : Int)))).setCell ⟨w.heap.size, 0, none⟩ (.int .i64 0)).setCell ⟨w.heap.size, 1, none⟩ (.int .i64 (D : Int))).setCell ⟨w.heap.size, 2, none⟩ (.int .i64 (P : Int))).setCell ⟨w.heap.size, 3, none⟩ (.int .i64 (c : Int))).setCell ⟨w.heap.size, 4, none⟩ (.int .i64 ((c : Int) + ((Sh.leaves (.cons rr kk ss) : Nat) : Int)))).setCell ⟨w.heap.size, 5, none⟩ (.slice (some ⟨gk, 0, none⟩) (Sh.len (.cons rr kk ss)) capk)) G a' rest := by
              have := HFD.out
              simp only [Sh.flat, List.nil_append] at this
              exact this.keepG (fun i hi => HE i (by omega) (by omega) (by omega))
            generalize (((((((wr.setCell ⟨w.heap.size + 2, 4, none⟩ (.int .i64 ((c : Int) + ((Sh.leaves (.cons rr kk ss) : Nat) : Int)))).setCell ⟨w.heap.size, 0, none⟩ (.int .i64 0)).setCell ⟨w.heap.size, 1, none⟩ (.int .i64 (D : Int))).setCell ⟨w.heap.size, 2, none⟩ (.int .i64 (P : Int))).setCell ⟨w.heap.size, 3, none⟩ (.int .i64 (c : Int))).setCell ⟨w.heap.size, 4, none⟩ (.int .i64 ((c : Int) + ((Sh.leaves (.cons rr kk ss) : Nat) : Int)))).setCell ⟨w.heap.size, 5, none⟩ (.slice (some ⟨gk, 0, none⟩) (Sh.len (.cons rr kk ss)) capk)) = WE at CS HE HBE hsE HGE HFE ⊢
            have z0 : WE.cell? ⟨w.heap.size, 0, none⟩ = some (.int .i64 0) := CS.c 0
            have z1 : WE.cell? ⟨w.heap.size, 1, none⟩ = some (.int .i64 (D : Int)) := CS.c 1
            have z2 : WE.cell? ⟨w.heap.size, 2, none⟩ = some (.int .i64 (P : Int)) := CS.c 2
            have z3 : WE.cell? ⟨w.heap.size, 3, none⟩ = some (.int .i64 (c : Int)) := CS.c 3
            have z4 : WE.cell? ⟨w.heap.size, 4, none⟩ = some (.int .i64 ((c : Int) + ((Sh.leaves (.cons rr kk ss) : Nat) : Int))) := CS.c 4
            have z5 : WE.cell? ⟨w.heap.size, 5, none⟩ = some (.slice (some ⟨gk, 0, none⟩) (Sh.len (.cons rr kk ss)) capk) := CS.c 5
            clear CS
            refine bodyPost_ret (v := .agg #[.int .i64 0, .int .i64 (D : Int), .int .i64 (P : Int), .int .i64 (c : Int), (.int .i64 ((c : Int) + ((Sh.leaves (.cons rr kk ss) : Nat) : Int))), (.slice (some ⟨gk, 0, none⟩) (Sh.len (.cons rr kk ss)) capk)]) (by simp [results, Try.results40, go_sem, z0, z1, z2, z3, z4, z5]) rfl ⟨(.slice (some ⟨gk, 0, none⟩) (Sh.len (.cons rr kk ss)) capk), a', ?_, ?_, HGE, HFE, HBE⟩
            · unfold nag nx
              rw [eT.out, ← HDP.out.1, ← HDP.out.2]; rfl
            · refine Or.inr ⟨(fun h => by cases h), gk, capk, rfl, ⟨by omega, by rw [hsE.out]; exact lt_of_block hgb⟩, ?_⟩
              rw [← HDP.out.1, ← HDP.out.2]
              refine Vals.row (Vals.wider (fun i hi => ⟨by have := hi.1; omega, by have := hi.2.1; rw [hsE.out]; omega⟩) (HV.out.keep (fun i hi => HE i (by have := hi.1; omega) (by have := hi.1; omega) (by have := hi.1; omega)))) (fun i hi => ?_)
              rw [World.cell?_of_block (a := ⟨gk, 0 + i, none⟩) (HE gk (by omega) (by omega) (by omega)), Nat.zero_add]
              exact HOWN.out.cellAt i (by rw [← HOWN.out.1]; exact hi)
        | cons r' k' s' =>
          have hlM : Sh.len done + (1 + Sh.len s') = M := by
            have := HM2.out; rw [← hap, Sh.len_app] at this; simpa [Sh.len] using this
          have hsM : Sh.size done + (1 + Sh.size k' + Sh.size s') = Sh.size k := by
            have := congrArg Sh.size hap; rw [Sh.size_app] at this; simpa [Sh.size] using this
          have hokd := hokk.out
          rw [← hap, Sh.ok_app] at hokd
          have hlv := Sh.leaves_le done
          have hLL : L = Sh.size k + rest.length + 1 := HL2.out.symm
          have HC := Lib.hid (IH.out r' k' (Sh.flat s' ++ rest) a' (cap - 1 - Sh.size done) D P (c + Sh.leaves done) G wr.drew (by omega) ⟨hokd.2.1, hokd.2.2.1, hokd.2.2.2.1, trivial⟩
            (by rw [List.length_append, Sh.flat_length]; omega) (by unfold maxLen; omega) (by omega) (by omega) (by omega)
            (by have := hFd; simp only [Sh.flat, List.cons_append, List.append_assoc] at this; exact this)
            (by have := hGd.drew; simp only [Sh.size] at this; rw [List.length_append, Sh.flat_length, show Sh.size k' + (Sh.size s' + rest.length) + 1 = 1 + Sh.size k' + Sh.size s' + rest.length by omega]; exact this))
          have hjI : ((Sh.len done : Nat) : Int) < (M : Int) := by omega
          rw [S3] at hN hown hV
          have n5 : wr.cell? ⟨w.heap.size + 2, 5, none⟩ = some v := by have := hN.c 5; simpa using this
          have nl := hN.lt
          have nG : ¬ w.heap.size + 2 = G := by omega
          have HLL := Lib.hid hLL
          clear hLL
          have hlb : (Sh.len done + 1) * 64 ≤ 140737488355328 := by have := HLL.out; have := Sh.len_le done; omega
          have HN := Lib.hid hN.drew
          have HOWN := Lib.hid hown
          unfold NextPost nag nx at HC
          go_wp2_with fail
          go_region_law (first
            | (have ownA := World.ownsRow.alloc (own_but (w := wr.drew) HOWN.out (by omega) hbt5) (.cells (nx r' D P (c + Sh.leaves done) k' kv).toArray 50); have hbA : w.heap.size + 2 + 1 ≤ (w5.alloc (.cells (nx r' D P (c + Sh.leaves done) k' kv).toArray 50)).heap.size := (by simp; omega); refine step_append_node rfl (.tmp 47) (.tmp 52) rfl (w.heap.size + 2 + 1) v (Sh.len done) xs rfl ownA w5.heap.size (nx r' D P (c + Sh.leaves done) k' kv) rfl rfl (heap_alloc_new w5 _) (nx_one _ _ _ _ _ _ hkv.one) hlb hbA ?_; intro g6 cap6 w6 hown6 hg6 hor6 hlt6; have hB6 := (Below.refl (w.heap.size + 2 + 1) _).grown hg6 hbA (fun k hk => (ownA.lt k hk).1); have hN6 := (show Cel w6 (w.heap.size + 2) _ _ from (hB6.block (w.heap.size + 2) (by omega)).trans (hN5.alloc _)); have n66 : w6.cell? ⟨w.heap.size + 2, 5, none⟩ = some v := (by have := hN6.c 5; simpa using this); have z66 := hN6.free 5)
            | (go_simp; go_at_call 40; refine HC.out.mono ?_; rintro e w5 ⟨kv, a5, rfl, hkv, hgd5, hfd5, hbt5⟩; have hN5 := HN.out.but nG hbt5; have n55 : w5.cell? ⟨w.heap.size + 2, 5, none⟩ = some v := (by have := hN5.c 5; simpa using this); have nl5 := hN5.lt))
          all_goals (
            clear HC ownA n55 n66 z66 n5
            have WA := Lib.hid (show (w5.alloc (.cells (nx r' D P (c + Sh.leaves done) k' kv).toArray 50)).grownBy w6 v.ownBlock from hg6)
            have HB6 := Lib.hid (show Below (w.heap.size + 2 + 1) (w5.alloc (.cells (nx r' D P (c + Sh.leaves done) k' kv).toArray 50)) w6 from hB6)
            have HOR := (show v.ownBlock = some g6 ∨ g6 = (w5.alloc (.cells (nx r' D P (c + Sh.leaves done) k' kv).toArray 50)).heap.size from hor6)
            clear hg6 hB6 hor6
            go_wp2_with fail
            have hsz5 : (w5.alloc (.cells (nx r' D P (c + Sh.leaves done) k' kv).toArray 50)).heap.size = w5.heap.size + 1 := by simp
            rw [hsz5] at HOR
            have hs5 := hbt5.size
            have hdr : wr.drew.heap.size = wr.heap.size := rfl
            have hs6 := WA.out.size
            rw [hsz5] at hs6
            have hvlt : ∀ i, v.ownBlock = some i → i < wr.heap.size := fun i h => (HOWN.out.lt i h).2
            have hb6 : ∀ i, i < w5.heap.size → some i ≠ v.ownBlock → (w6.setCell ⟨w.heap.size + 2, 5, none⟩ (.slice (some ⟨g6, 0, none⟩) (Sh.len done + 1) cap6)).heap[i]? = (if i = w.heap.size + 2 then (w6.setCell ⟨w.heap.size + 2, 5, none⟩ (.slice (some ⟨g6, 0, none⟩) (Sh.len done + 1) cap6)).heap[i]? else w5.heap[i]?) := by
              intro i hi hne
              by_cases e : i = w.heap.size + 2
              · rw [if_pos e]
              · rw [if_neg e, heap_set_ne _ _ _ _ _ (Ne.symm e), WA.out.block i (by rw [hsz5]; omega) hne, heap_alloc_old _ _ hi]
            have hgl : ∀ i, i < w.heap.size + 2 + 1 → i < w5.heap.size → i ≠ w.heap.size + 2 → (w6.setCell ⟨w.heap.size + 2, 5, none⟩ (.slice (some ⟨g6, 0, none⟩) (Sh.len done + 1) cap6)).heap[i]? = w5.heap[i]? := by
              intro i hi h5 hne
              rw [heap_set_ne _ _ _ _ _ (Ne.symm hne), HB6.out.block i hi, heap_alloc_old _ _ h5]
            have hBF : But G w (w6.setCell ⟨w.heap.size + 2, 5, none⟩ (.slice (some ⟨g6, 0, none⟩) (Sh.len done + 1) cap6)) := by
              refine ⟨HB6.out.os.trans (hbt5.os.trans hBt.os), HB6.out.tape.trans (hbt5.tape.trans hBt.tape), HB6.out.output.trans (hbt5.output.trans hBt.output), by simp [World.setCell]; omega, fun i hi hne => ?_⟩
              rw [hgl i (by omega) (by omega) (by omega), hbt5.block i (by rw [hdr]; omega) hne]
              exact hBt.block i hi hne
            have hGF : (w6.setCell ⟨w.heap.size + 2, 5, none⟩ (.slice (some ⟨g6, 0, none⟩) (Sh.len done + 1) cap6)).heap[G]? = w5.heap[G]? := hgl G (by omega) (by omega) (by omega)
            refine ⟨⟨Sh.len done + 1, Sh.app done (.cons r' k' .nil), s', xs ++ nx r' D P (c + Sh.leaves done) k' kv, .slice (some ⟨g6, 0, none⟩) (Sh.len done + 1) cap6, a5, _, by rw [Sh.app_app]; exact hap, by rw [Sh.len_app]; rfl, rfl, ?_, ?_, fun h => absurd h (Nat.succ_ne_zero _), ?_, ?_, by rw [Sh.size_app], ?_, ?_, ?_, hBF⟩, by simp [intOf]; omega⟩
            · rw [S3]; exact hN6.set5 _
            · rw [S3]; exact own_but hown6 (by omega) ((But.refl _ _).set (w.heap.size + 2) 5 _ (Or.inl rfl))
            · rw [S3]
              have hsF : (w6.setCell ⟨w.heap.size + 2, 5, none⟩ (.slice (some ⟨g6, 0, none⟩) (Sh.len done + 1) cap6)).heap.size = w6.heap.size := by simp [World.setCell]
              have K1 : ∀ i, (w.heap.size + 2 + 1 ≤ i ∧ i < wr.heap.size ∧ some i ≠ v.ownBlock) → (w.heap.size + 2 + 1 ≤ i ∧ i < (w6.setCell ⟨w.heap.size + 2, 5, none⟩ (.slice (some ⟨g6, 0, none⟩) (Sh.len done + 1) cap6)).heap.size ∧ some i ≠ (Value.slice (some ⟨g6, 0, none⟩) (Sh.len done + 1) cap6).ownBlock) := by
                intro i ⟨h1, h2, h3⟩
                refine ⟨h1, by rw [hsF]; omega, ?_⟩
                show some i ≠ some g6
                rcases HOR with h | h
                · rw [← h]; exact h3
                · intro e; have := Option.some.inj e; omega
              have E1 : ∀ i, (w.heap.size + 2 + 1 ≤ i ∧ i < wr.heap.size ∧ some i ≠ v.ownBlock) → (w6.setCell ⟨w.heap.size + 2, 5, none⟩ (.slice (some ⟨g6, 0, none⟩) (Sh.len done + 1) cap6)).heap[i]? = wr.heap[i]? := by
                intro i ⟨h1, h2, h3⟩
                rw [hb6 i (by omega) h3, if_neg (by omega), hbt5.block i (by rw [hdr]; omega) (by omega)]
                rfl
              have K2 : ∀ i, (wr.drew.heap.size ≤ i ∧ i < w5.heap.size) → (w.heap.size + 2 + 1 ≤ i ∧ i < (w6.setCell ⟨w.heap.size + 2, 5, none⟩ (.slice (some ⟨g6, 0, none⟩) (Sh.len done + 1) cap6)).heap.size ∧ some i ≠ (Value.slice (some ⟨g6, 0, none⟩) (Sh.len done + 1) cap6).ownBlock) := by
                intro i ⟨h1, h2⟩
                refine ⟨by omega, by rw [hsF]; omega, ?_⟩
                show some i ≠ some g6
                intro e
                rcases HOR with h | h
                · have := hvlt g6 h; have := Option.some.inj e; omega
                · have := Option.some.inj e; omega
              have E2 : ∀ i, (wr.drew.heap.size ≤ i ∧ i < w5.heap.size) → (w6.setCell ⟨w.heap.size + 2, 5, none⟩ (.slice (some ⟨g6, 0, none⟩) (Sh.len done + 1) cap6)).heap[i]? = w5.heap[i]? := by
                intro i ⟨h1, h2⟩
                rw [hb6 i (by omega) (fun e => by have := hvlt i e.symm; omega), if_neg (by omega)]
              exact Vals.snoc (Vals.wider K1 (hV.keep E1)) (KidsOf.wider K2 (hkv.keep E2))
            · have h := hgd5
              unfold Gd at h ⊢
              rw [hGF, h, List.length_append, Sh.flat_length, Sh.leaves_app, leaves_cons]
              simp only [Sh.leaves, Sh.size, Nat.add_zero, Nat.add_assoc]
              congr 5
              omega
            · refine Fds.keepG hfd5 (fun i hi => hgl i (by omega) (by omega) (by omega))
            · exact (hgl (w.heap.size + 1) (by omega) (by omega) (by omega)).trans (Cel.but hF.drew (by omega) hbt5)
            · exact (hgl w.heap.size (by omega) (by omega) (by omega)).trans (Cel.but hRs.drew (by omega) hbt5))
    · have := e3 (by omega); subst this
      have hwd := hwd2 (by omega)
      clear e0 e1 e2 e3 hwd2 hwp2
      go_enter Try.func40, Try.ntmps40
      go_wp2_with fail
      have R3 := (cel_new (w.setCell ⟨G, 0, none⟩ (.slice A (L - 1) (cap - 1))) #[.int .i64 0, .int .i64 0, .int .i64 0, .int .i64 0, .int .i64 0, .slice none 0 0] 50).alloc (.cells #[.int .i64 1, .int .i64 M] 32)
      have F3 := cel_new1 (w.setCell ⟨G, 0, none⟩ (.slice A (L - 1) (cap - 1))) (.cells #[.int .i64 0, .int .i64 0, .int .i64 0, .int .i64 0, .int .i64 0, .slice none 0 0] 50) #[.int .i64 1, .int .i64 M] 32
      have G3 := (HG2.out.alloc (.cells #[.int .i64 0, .int .i64 0, .int .i64 0, .int .i64 0, .int .i64 0, .slice none 0 0] 50)).alloc (.cells #[.int .i64 1, .int .i64 M] 32)
      have B3 := (HB2.out.alloc (.cells #[.int .i64 0, .int .i64 0, .int .i64 0, .int .i64 0, .int .i64 0, .slice none 0 0] 50)).alloc (.cells #[.int .i64 1, .int .i64 M] 32)
      have A3 := HF2.out.but (w' := ((w.setCell ⟨G, 0, none⟩ (.slice A (L - 1) (cap - 1))).alloc (.cells #[.int .i64 0, .int .i64 0, .int .i64 0, .int .i64 0, .int .i64 0, .slice none 0 0] 50)).alloc (.cells #[.int .i64 1, .int .i64 M] 32)) (Nat.le_refl _) (by rw [hs2]; exact hGl) (((But.refl _ _).alloc _).alloc _)
      have S3 : (((w.setCell ⟨G, 0, none⟩ (.slice A (L - 1) (cap - 1))).alloc (.cells #[.int .i64 0, .int .i64 0, .int .i64 0, .int .i64 0, .int .i64 0, .slice none 0 0] 50)).alloc (.cells #[.int .i64 1, .int .i64 M] 32)).heap.size = w.heap.size + 2 := by simp [hs2]
      rw [hs2] at R3 F3
      generalize ((w.setCell ⟨G, 0, none⟩ (.slice A (L - 1) (cap - 1))).alloc (.cells #[.int .i64 0, .int .i64 0, .int .i64 0, .int .i64 0, .int .i64 0, .slice none 0 0] 50)).alloc (.cells #[.int .i64 1, .int .i64 M] 32) = X at *
      clear HG2 HB2 HF2 hs2 c0 c1 g0 g1 gz
      have f0 : X.cell? ⟨w.heap.size + 1, 0, none⟩ = some (.int .i64 1) := by have := F3.c 0; simpa using this
      have f1 : X.cell? ⟨w.heap.size + 1, 1, none⟩ = some (.int .i64 (M : Int)) := by have := F3.c 1; simpa using this
      have g1 := G3.c1
      have f2 : w.heap.size + 1 < X.heap.size := by omega
      have f3 : G < X.heap.size := by omega
      have f4 : ¬ w.heap.size + 1 = X.heap.size := by omega
      have f5 : ¬ G = X.heap.size := by omega
      have HF4 := Lib.hid F3
      have HG4 := Lib.hid G3
      have HR4 := Lib.hid R3
      have HB4 := Lib.hid B3
      have HA4 := Lib.hid A3
      clear F3 G3 R3 B3 A3
      go_region
      go_wp2_with fail
      go_loopw [44] (fun i wr => ∃ (j : Nat) (done s : Sh.F) (xs : List Value) (v : Value) (a' : Option Addr) (cx : Nat), Sh.app done s = k ∧ Sh.len done = j ∧ i = .int .i64 j ∧ Cel wr X.heap.size #[.int .i64 1, .int .i64 (D : Int), .int .i64 (P : Int), .int .i64 (c : Int), .int .i64 0, v] 50 ∧ wr.ownsRow (X.heap.size + 1) 50 6 v j xs ∧ (j = 0 → v = .slice none 0 0) ∧ Vals wr (fun i => X.heap.size + 1 ≤ i ∧ i < wr.heap.size ∧ some i ≠ v.ownBlock) done xs D P c ∧ Gd wr G (.slice a' (Sh.size s + rest.length) cx) (c + Sh.leaves done) ∧ cx = cap - 1 - Sh.size done ∧ Fds wr G a' (Sh.flat s ++ rest) ∧ Cel wr (w.heap.size + 1) #[.int .i64 1, .int .i64 M] 32 ∧ Cel wr w.heap.size #[.int .i64 0, .int .i64 0, .int .i64 0, .int .i64 0, .int .i64 0, .slice none 0 0] 50 ∧ But G w wr) (fun i _ => M - (intOf i).toNat)
      case atStart =>
        have hLL : L - 1 = Sh.size k + rest.length := by have := HL2.out; omega
        refine ⟨0, .nil, k, [], .slice none 0 0, A, cap - 1, rfl, rfl, rfl, (cel_new X _ _).drew, ⟨rfl, Or.inl ⟨rfl, rfl⟩⟩, fun _ => rfl, rfl, ?_, by simp [Sh.size], ?_, (HF4.out.alloc _).drew, (HR4.out.alloc _).drew, (HB4.out.alloc _).drew⟩
        · have := (HG4.out.alloc (.cells #[.int .i64 1, .int .i64 (D : Int), .int .i64 (P : Int), .int .i64 (c : Int), .int .i64 0, .slice none 0 0] 50)).drew
          rw [hLL] at this; exact this
        · exact HA4.out.but (Nat.le_refl _) f3 ((But.refl G X).alloc _).drew
      case round =>
        obtain ⟨j, done, s, xs, v, a', cx, hap, rfl, rfl, hN, hown, hv0, hV, hGd, rfl, hFd, hF, hRs, hBt⟩ := hrel
        cases s with
        | nil =>
          rw [Sh.app_nil] at hap
          subst hap
          have hM := HM2.out
          have hjI : ¬ ((Sh.len done : Nat) : Int) < (M : Int) := by omega
          rw [S3] at hN hown hV
          have hNl := hN.lt
          have n4 : wr.frozen? ⟨w.heap.size + 2, 4, none⟩ = false := hN.free 4
          have f1 : wr.cell? ⟨w.heap.size + 1, 1, none⟩ = some (.int .i64 (M : Int)) := by have := hF.c 1; simpa using this
          have q1 := hGd.c1
          have qz := hGd.free 1
          have hlv := Sh.leaves_le done
          have n0 : wr.cell? ⟨w.heap.size + 2, 0, none⟩ = some (.int .i64 1) := by have := hN.c 0; simpa using this
          have n1 : wr.cell? ⟨w.heap.size + 2, 1, none⟩ = some (.int .i64 (D : Int)) := by have := hN.c 1; simpa using this
          have n2 : wr.cell? ⟨w.heap.size + 2, 2, none⟩ = some (.int .i64 (P : Int)) := by have := hN.c 2; simpa using this
          have n3 : wr.cell? ⟨w.heap.size + 2, 3, none⟩ = some (.int .i64 (c : Int)) := by have := hN.c 3; simpa using this
          have n4 : wr.cell? ⟨w.heap.size + 2, 4, none⟩ = some (.int .i64 0) := by have := hN.c 4; simpa using this
          have n5 : wr.cell? ⟨w.heap.size + 2, 5, none⟩ = some v := by have := hN.c 5; simpa using this
          have r0 : wr.cell? ⟨w.heap.size, 0, none⟩ = some (.int .i64 0) := by have := hRs.c 0; simpa using this
          have z0 : wr.frozen? ⟨w.heap.size, 0, none⟩ = false := hRs.free 0
          have r1 : wr.cell? ⟨w.heap.size, 1, none⟩ = some (.int .i64 0) := by have := hRs.c 1; simpa using this
          have z1 : wr.frozen? ⟨w.heap.size, 1, none⟩ = false := hRs.free 1
          have r2 : wr.cell? ⟨w.heap.size, 2, none⟩ = some (.int .i64 0) := by have := hRs.c 2; simpa using this
          have z2 : wr.frozen? ⟨w.heap.size, 2, none⟩ = false := hRs.free 2
          have r3 : wr.cell? ⟨w.heap.size, 3, none⟩ = some (.int .i64 0) := by have := hRs.c 3; simpa using this
          have z3 : wr.frozen? ⟨w.heap.size, 3, none⟩ = false := hRs.free 3
          have r4 : wr.cell? ⟨w.heap.size, 4, none⟩ = some (.int .i64 0) := by have := hRs.c 4; simpa using this
          have z4 : wr.frozen? ⟨w.heap.size, 4, none⟩ = false := hRs.free 4
          have r5 : wr.cell? ⟨w.heap.size, 5, none⟩ = some (.slice none 0 0) := by have := hRs.c 5; simpa using this
          have z5 : wr.frozen? ⟨w.heap.size, 5, none⟩ = false := hRs.free 5
          have HN := Lib.hid hN
          have HOWN := Lib.hid hown
          have HV := Lib.hid hV
          have HGD := Lib.hid hGd
          have HFD := Lib.hid hFd
          have HRS := Lib.hid hRs
          have HBT := Lib.hid hBt
          have HF5 := Lib.hid hF
          clear hN hown hV hGd hFd hRs hBt hF
          have hn1 : ¬ w.heap.size + 1 = w.heap.size + 2 := by omega
          have hn9 : ¬ G = w.heap.size + 2 := by omega
          cases done with
          | nil =>
            have hM0 : (M : Int) = 0 := by rw [← hM]; rfl
            have hv := hv0 rfl
            subst hv
            go_wp2_with fail
            have eT := Lib.hid (show ((.int .i64 ((c : Int) + ((Sh.leaves .nil : Nat) : Int) + 1)) : Value) = .int .i64 ((c + lv1 .nil : Nat) : Int) by simp [Sh.leaves, lv1])
            have CS := cel_six (show Cel ((wr.setCell ⟨G, 1, none⟩ (.int .i64 ((c : Int) + ((Sh.leaves .nil : Nat) : Int) + 1))).setCell ⟨w.heap.size + 2, 4, none⟩ (.int .i64 ((c : Int) + ((Sh.leaves .nil : Nat) : Int) + 1))) w.heap.size #[.int .i64 0, .int .i64 0, .int .i64 0, .int .i64 0, .int .i64 0, .slice none 0 0] 50 from ((HRS.out.far G 1 (.int .i64 ((c : Int) + ((Sh.leaves .nil : Nat) : Int) + 1)) (by omega)).far (w.heap.size + 2) 4 (.int .i64 ((c : Int) + ((Sh.leaves .nil : Nat) : Int) + 1)) (by omega))) (.int .i64 1) (.int .i64 (D : Int)) (.int .i64 (P : Int)) (.int .i64 (c : Int)) (.int .i64 ((c : Int) + ((Sh.leaves .nil : Nat) : Int) + 1)) (.slice none 0 0)
            have HE : ∀ i, i ≠ G → i ≠ w.heap.size + 2 → i ≠ w.heap.size → ((((((((wr.setCell ⟨G, 1, none⟩ (.int .i64 ((c : Int) + ((Sh.leaves .nil : Nat) : Int) + 1))).setCell ⟨w.heap.size + 2, 4, none⟩ (.int .i64 ((c : Int) + ((Sh.leaves .nil : Nat) : Int) + 1))).setCell ⟨w.heap.size, 0, none⟩ (.int .i64 1)).setCell ⟨w.heap.size, 1, none⟩ (.int .i64 (D : Int))).setCell ⟨w.heap.size, 2, none⟩ (.int .i64 (P : Int))).setCell ⟨w.heap.size, 3, none⟩ (.int .i64 (c : Int))).setCell ⟨w.heap.size, 4, none⟩ (.int .i64 ((c : Int) + ((Sh.leaves .nil : Nat) : Int) + 1))).setCell ⟨w.heap.size, 5, none⟩ (.slice none 0 0)).heap[i]? = wr.heap[i]? := by
              intro i h1 h2 h3
              simp [World.setCell, Array.getElem?_modify, Ne.symm h1, Ne.symm h2, Ne.symm h3]
            have HBE : But G w ((((((((wr.setCell ⟨G, 1, none⟩ (.int .i64 ((c : Int) + ((Sh.leaves .nil : Nat) : Int) + 1))).setCell ⟨w.heap.size + 2, 4, none⟩ (.int .i64 ((c : Int) + ((Sh.leaves .nil : Nat) : Int) + 1))).setCell ⟨w.heap.size, 0, none⟩ (.int .i64 1)).setCell ⟨w.heap.size, 1, none⟩ (.int .i64 (D : Int))).setCell ⟨w.heap.size, 2, none⟩ (.int .i64 (P : Int))).setCell ⟨w.heap.size, 3, none⟩ (.int .i64 (c : Int))).setCell ⟨w.heap.size, 4, none⟩ (.int .i64 ((c : Int) + ((Sh.leaves .nil : Nat) : Int) + 1))).setCell ⟨w.heap.size, 5, none⟩ (.slice none 0 0)) := ((((((((HBT.out.set G 1 _ (Or.inl rfl)).set (w.heap.size + 2) 4 _ (Or.inr (by omega))).set w.heap.size 0 _ (Or.inr (Nat.le_refl _))).set w.heap.size 1 _ (Or.inr (Nat.le_refl _))).set w.heap.size 2 _ (Or.inr (Nat.le_refl _))).set w.heap.size 3 _ (Or.inr (Nat.le_refl _))).set w.heap.size 4 _ (Or.inr (Nat.le_refl _))).set w.heap.size 5 _ (Or.inr (Nat.le_refl _)))
            have hsE := Lib.hid (show ((((((((wr.setCell ⟨G, 1, none⟩ (.int .i64 ((c : Int) + ((Sh.leaves .nil : Nat) : Int) + 1))).setCell ⟨w.heap.size + 2, 4, none⟩ (.int .i64 ((c : Int) + ((Sh.leaves .nil : Nat) : Int) + 1))).setCell ⟨w.heap.size, 0, none⟩ (.int .i64 1)).setCell ⟨w.heap.size, 1, none⟩ (.int .i64 (D : Int))).setCell ⟨w.heap.size, 2, none⟩ (.int .i64 (P : Int))).setCell ⟨w.heap.size, 3, none⟩ (.int .i64 (c : Int))).setCell ⟨w.heap.size, 4, none⟩ (.int .i64 ((c : Int) + ((Sh.leaves .nil : Nat) : Int) + 1))).setCell ⟨w.heap.size, 5, none⟩ (.slice none 0 0)).heap.size = wr.heap.size by simp [World.setCell])
            have HGE : Gd ((((((((wr.setCell ⟨G, 1, none⟩ (.int .i64 ((c : Int) + ((Sh.leaves .nil : Nat) : Int) + 1))).setCell ⟨w.heap.size + 2, 4, none⟩ (.int .i64 ((c : Int) + ((Sh.leaves .nil : Nat) : Int) + 1))).setCell ⟨w.heap.size, 0, none⟩ (.int .i64 1)).setCell ⟨w.heap.size, 1, none⟩ (.int .i64 (D : Int))).setCell ⟨w.heap.size, 2, none⟩ (.int .i64 (P : Int))).setCell ⟨w.heap.size, 3, none⟩ (.int .i64 (c : Int))).setCell ⟨w.heap.size, 4, none⟩ (.int .i64 ((c : Int) + ((Sh.leaves .nil : Nat) : Int) + 1))).setCell ⟨w.heap.size, 5, none⟩ (.slice none 0 0)) G (.slice a' rest.length (cap - 1 - Sh.size .nil)) (c + lv1 .nil) := by
              have HG0 := HGD.out
              rw [show Sh.size Sh.F.nil + rest.length = rest.length by simp [Sh.size]] at HG0
              exact ((((((((HG0.s1e _ (c + lv1 .nil) eT.out).far (w.heap.size + 2) 4 (.int .i64 ((c : Int) + ((Sh.leaves .nil : Nat) : Int) + 1)) (by omega)).far w.heap.size 0 (.int .i64 1) (by omega)).far w.heap.size 1 (.int .i64 (D : Int)) (by omega)).far w.heap.size 2 (.int .i64 (P : Int)) (by omega)).far w.heap.size 3 (.int .i64 (c : Int)) (by omega)).far w.heap.size 4 (.int .i64 ((c : Int) + ((Sh.leaves .nil : Nat) : Int) + 1)) (by omega)).far w.heap.size 5 (.slice none 0 0) (by omega))
            have HFE : Fds ((((((((wr.setCell ⟨G, 1, none⟩ (.int .i64 ((c : Int) + ((Sh.leaves .nil : Nat) : Int) + 1))).setCell ⟨w.heap.size + 2, 4, none⟩ (.int .i64 ((c : Int) + ((Sh.leaves .nil : Nat) : Int) + 1))).setCell ⟨w.heap.size, 0, none⟩ (.int .i64 1)).setCell ⟨w.heap.size, 1, none⟩ (.int .i64 (D : Int))).setCell ⟨w.heap.size, 2, none⟩ (.int .i64 (P : Int))).setCell ⟨w.heap.size, 3, none⟩ (.int .i64 (c : Int))).setCell ⟨w.heap.size, 4, none⟩ (.int .i64 ((c : Int) + ((Sh.leaves .nil : Nat) : Int) + 1))).setCell ⟨w.heap.size, 5, none⟩ (.slice none 0 0)) G a' rest := by
              have := HFD.out
              simp only [Sh.flat, List.nil_append] at this
              exact this.keepG (fun i hi => HE i (by omega) (by omega) (by omega))
            generalize ((((((((wr.setCell ⟨G, 1, none⟩ (.int .i64 ((c : Int) + ((Sh.leaves .nil : Nat) : Int) + 1))).setCell ⟨w.heap.size + 2, 4, none⟩ (.int .i64 ((c : Int) + ((Sh.leaves .nil : Nat) : Int) + 1))).setCell ⟨w.heap.size, 0, none⟩ (.int .i64 1)).setCell ⟨w.heap.size, 1, none⟩ (.int .i64 (D : Int))).setCell ⟨w.heap.size, 2, none⟩ (.int .i64 (P : Int))).setCell ⟨w.heap.size, 3, none⟩ (.int .i64 (c : Int))).setCell ⟨w.heap.size, 4, none⟩ (.int .i64 ((c : Int) + ((Sh.leaves .nil : Nat) : Int) + 1))).setCell ⟨w.heap.size, 5, none⟩ (.slice none 0 0)) = WE at CS HE HBE hsE HGE HFE ⊢
            have z0 : WE.cell? ⟨w.heap.size, 0, none⟩ = some (.int .i64 1) := CS.c 0
            have z1 : WE.cell? ⟨w.heap.size, 1, none⟩ = some (.int .i64 (D : Int)) := CS.c 1
            have z2 : WE.cell? ⟨w.heap.size, 2, none⟩ = some (.int .i64 (P : Int)) := CS.c 2
            have z3 : WE.cell? ⟨w.heap.size, 3, none⟩ = some (.int .i64 (c : Int)) := CS.c 3
            have z4 : WE.cell? ⟨w.heap.size, 4, none⟩ = some (.int .i64 ((c : Int) + ((Sh.leaves .nil : Nat) : Int) + 1)) := CS.c 4
            have z5 : WE.cell? ⟨w.heap.size, 5, none⟩ = some (.slice none 0 0) := CS.c 5
            clear CS
            refine bodyPost_ret (v := .agg #[.int .i64 1, .int .i64 (D : Int), .int .i64 (P : Int), .int .i64 (c : Int), (.int .i64 ((c : Int) + ((Sh.leaves .nil : Nat) : Int) + 1)), (.slice none 0 0)]) (by simp [results, Try.results40, go_sem, z0, z1, z2, z3, z4, z5]) rfl ⟨(.slice none 0 0), a', ?_, ?_, HGE, HFE, HBE⟩
            · unfold nag nx
              rw [eT.out, ← HDP.out.1, ← HDP.out.2]; rfl
            · exact Or.inl ⟨rfl, rfl⟩
          | cons rr kk ss =>
            have hM0 : ¬ (M : Int) = 0 := by rw [← hM]; simp only [Sh.len]; omega
            rcases HOWN.out.2 with ⟨-, h0⟩ | ⟨gk, capk, cur, hv, hgk, hgb, -, -, -, -⟩
            · exact absurd h0 (by simp only [Sh.len]; omega)
            subst hv
            clear hM
            go_wp2_with fail
            have eT := Lib.hid (show ((.int .i64 ((c : Int) + ((Sh.leaves (.cons rr kk ss) : Nat) : Int))) : Value) = .int .i64 ((c + lv1 (.cons rr kk ss) : Nat) : Int) by simp [lv1])
            have CS := cel_six (show Cel (wr.setCell ⟨w.heap.size + 2, 4, none⟩ (.int .i64 ((c : Int) + ((Sh.leaves (.cons rr kk ss) : Nat) : Int)))) w.heap.size #[.int .i64 0, .int .i64 0, .int .i64 0, .int .i64 0, .int .i64 0, .slice none 0 0] 50 from (HRS.out.far (w.heap.size + 2) 4 (.int .i64 ((c : Int) + ((Sh.leaves (.cons rr kk ss) : Nat) : Int))) (by omega))) (.int .i64 1) (.int .i64 (D : Int)) (.int .i64 (P : Int)) (.int .i64 (c : Int)) (.int .i64 ((c : Int) + ((Sh.leaves (.cons rr kk ss) : Nat) : Int))) (.slice (some ⟨gk, 0, none⟩) (Sh.len (.cons rr kk ss)) capk)
            have HE : ∀ i, i ≠ G → i ≠ w.heap.size + 2 → i ≠ w.heap.size → (((((((wr.setCell ⟨w.heap.size + 2, 4, none⟩ (.int .i64 ((c : Int) + ((Sh.leaves (.cons rr kk ss) : Nat) : Int)))).setCell ⟨w.heap.size, 0, none⟩ (.int .i64 1)).setCell ⟨w.heap.size, 1, none⟩ (.int .i64 (D : Int))).setCell ⟨w.heap.size, 2, none⟩ (.int .i64 (P : Int))).setCell ⟨w.heap.size, 3, none⟩ (.int .i64 (c : Int))).setCell ⟨w.heap.size, 4, none⟩ (.int .i64 ((c : Int) + ((Sh.leaves (.cons rr kk ss) : Nat) : Int)))).setCell ⟨w.heap.size, 5, none⟩ (.slice (some ⟨gk, 0, none⟩) (Sh.len (.cons rr kk ss)) capk)).heap[i]? = wr.heap[i]? := by
              intro i h1 h2 h3
              simp [World.setCell, Array.getElem?_modify, Ne.symm h2, Ne.symm h3]
            have HBE : But G w (((((((wr.setCell ⟨w.heap.size + 2, 4, none⟩ (.int .i64 ((c : Int) + ((Sh.leaves (.cons rr kk ss) : Nat) : Int)))).setCell ⟨w.heap.size, 0, none⟩ (.int .i64 1)).setCell ⟨w.heap.size, 1, none⟩ (.int .i64 (D : Int))).setCell ⟨w.heap.size, 2, none⟩ (.int .i64 (P : Int))).setCell ⟨w.heap.size, 3, none⟩ (.int .i64 (c : Int))).setCell ⟨w.heap.size, 4, none⟩ (.int .i64 ((c : Int) + ((Sh.leaves (.cons rr kk ss) : Nat) : Int)))).setCell ⟨w.heap.size, 5, none⟩ (.slice (some ⟨gk, 0, none⟩) (Sh.len (.cons rr kk ss)) capk)) := (((((((HBT.out.set (w.heap.size + 2) 4 _ (Or.inr (by omega))).set w.heap.size 0 _ (Or.inr (Nat.le_refl _))).set w.heap.size 1 _ (Or.inr (Nat.le_refl _))).set w.heap.size 2 _ (Or.inr (Nat.le_refl _))).set w.heap.size 3 _ (Or.inr (Nat.le_refl _))).set w.heap.size 4 _ (Or.inr (Nat.le_refl _))).set w.heap.size 5 _ (Or.inr (Nat.le_refl _)))
            have hsE := Lib.hid (show (((((((wr.setCell ⟨w.heap.size + 2, 4, none⟩ (.int .i64 ((c : Int) + ((Sh.leaves (.cons rr kk ss) : Nat) : Int)))).setCell ⟨w.heap.size, 0, none⟩ (.int .i64 1)).setCell ⟨w.heap.size, 1, none⟩ (.int .i64 (D : Int))).setCell ⟨w.heap.size, 2, none⟩ (.int .i64 (P : Int))).setCell ⟨w.heap.size, 3, none⟩ (.int .i64 (c : Int))).setCell ⟨w.heap.size, 4, none⟩ (.int .i64 ((c : Int) + ((Sh.leaves (.cons rr kk ss) : Nat) : Int)))).setCell ⟨w.heap.size, 5, none⟩ (.slice (some ⟨gk, 0, none⟩) (Sh.len (.cons rr kk ss)) capk)).heap.size = wr.heap.size by simp [World.setCell])
            have HGE : Gd (((((((wr.setCell ⟨w.heap.size + 2, 4, none⟩ (.int .i64 ((c : Int) + ((Sh.leaves (.cons rr kk ss) : Nat) : Int)))).setCell ⟨w.heap.size, 0, none⟩ (.int .i64 1)).setCell ⟨w.heap.size, 1, none⟩ (.int .i64 (D : Int))).setCell ⟨w.heap.size, 2, none⟩ (.int .i64 (P : Int))).setCell ⟨w.heap.size, 3, none⟩ (.int .i64 (c : Int))).setCell ⟨w.heap.size, 4, none⟩ (.int .i64 ((c : Int) + ((Sh.leaves (.cons rr kk ss) : Nat) : Int)))).setCell ⟨w.heap.size, 5, none⟩ (.slice (some ⟨gk, 0, none⟩) (Sh.len (.cons rr kk ss)) capk)) G (.slice a' rest.length (cap - 1 - Sh.size (.cons rr kk ss))) (c + lv1 (.cons rr kk ss)) := by
              have HG0 := HGD.out
              rw [show Sh.size Sh.F.nil + rest.length = rest.length by simp [Sh.size]] at HG0
              rw [show lv1 (.cons rr kk ss) = Sh.leaves (.cons rr kk ss) from rfl]
              exact (((((((HG0.far (w.heap.size + 2) 4 (.int .i64 ((c : Int) + ((Sh.leaves (.cons rr kk ss) : Nat) : Int))) (by omega)).far w.heap.size 0 (.int .i64 1) (by omega)).far w.heap.size 1 (.int .i64 (D : Int)) (by omega)).far w.heap.size 2 (.int .i64 (P : Int)) (by omega)).far w.heap.size 3 (.int .i64 (c : Int)) (by omega)).far w.heap.size 4 (.int .i64 ((c : Int) + ((Sh.leaves (.cons rr kk ss) : Nat) : Int))) (by omega)).far w.heap.size 5 (.slice (some ⟨gk, 0, none⟩) (Sh.len (.cons rr kk ss)) capk) (by omega))
            have HFE : Fds (((((((wr.setCell ⟨w.heap.size + 2, 4, none⟩ (.int .i64 ((c : Int) + ((Sh.leaves (.cons rr kk ss) : Nat) : Int)))).setCell ⟨w.heap.size, 0, none⟩ (.int .i64 1)).setCell ⟨w.heap.size, 1, none⟩ (.int .i64 (D : Int))).setCell ⟨w.heap.size, 2, none⟩ (.int .i64 (P : Int))).setCell ⟨w.heap.size, 3, none⟩ (.int .i64 (c : Int))).setCell ⟨w.heap.size, 4, none⟩ (.int .i64 ((c : Int) + ((Sh.leaves (.cons rr kk ss) : Nat) : Int)))).setCell ⟨w.heap.size, 5, none⟩ (.slice (some ⟨gk, 0, none⟩) (Sh.len (.cons rr kk ss)) capk)) G a' rest := by
              have := HFD.out
              simp only [Sh.flat, List.nil_append] at this
              exact this.keepG (fun i hi => HE i (by omega) (by omega) (by omega))
            generalize (((((((wr.setCell ⟨w.heap.size + 2, 4, none⟩ (.int .i64 ((c : Int) + ((Sh.leaves (.cons rr kk ss) : Nat) : Int)))).setCell ⟨w.heap.size, 0, none⟩ (.int .i64 1)).setCell ⟨w.heap.size, 1, none⟩ (.int .i64 (D : Int))).setCell ⟨w.heap.size, 2, none⟩ (.int .i64 (P : Int))).setCell ⟨w.heap.size, 3, none⟩ (.int .i64 (c : Int))).setCell ⟨w.heap.size, 4, none⟩ (.int .i64 ((c : Int) + ((Sh.leaves (.cons rr kk ss) : Nat) : Int)))).setCell ⟨w.heap.size, 5, none⟩ (.slice (some ⟨gk, 0, none⟩) (Sh.len (.cons rr kk ss)) capk)) = WE at CS HE HBE hsE HGE HFE ⊢
            have z0 : WE.cell? ⟨w.heap.size, 0, none⟩ = some (.int .i64 1) := CS.c 0
            have z1 : WE.cell? ⟨w.heap.size, 1, none⟩ = some (.int .i64 (D : Int)) := CS.c 1
            have z2 : WE.cell? ⟨w.heap.size, 2, none⟩ = some (.int .i64 (P : Int)) := CS.c 2
            have z3 : WE.cell? ⟨w.heap.size, 3, none⟩ = some (.int .i64 (c : Int)) := CS.c 3
            have z4 : WE.cell? ⟨w.heap.size, 4, none⟩ = some (.int .i64 ((c : Int) + ((Sh.leaves (.cons rr kk ss) : Nat) : Int))) := CS.c 4
            have z5 : WE.cell? ⟨w.heap.size, 5, none⟩ = some (.slice (some ⟨gk, 0, none⟩) (Sh.len (.cons rr kk ss)) capk) := CS.c 5
            clear CS
            refine bodyPost_ret (v := .agg #[.int .i64 1, .int .i64 (D : Int), .int .i64 (P : Int), .int .i64 (c : Int), (.int .i64 ((c : Int) + ((Sh.leaves (.cons rr kk ss) : Nat) : Int))), (.slice (some ⟨gk, 0, none⟩) (Sh.len (.cons rr kk ss)) capk)]) (by simp [results, Try.results40, go_sem, z0, z1, z2, z3, z4, z5]) rfl ⟨(.slice (some ⟨gk, 0, none⟩) (Sh.len (.cons rr kk ss)) capk), a', ?_, ?_, HGE, HFE, HBE⟩
            · unfold nag nx
              rw [eT.out, ← HDP.out.1, ← HDP.out.2]; rfl
            · refine Or.inr ⟨(fun h => by cases h), gk, capk, rfl, ⟨by omega, by rw [hsE.out]; exact lt_of_block hgb⟩, ?_⟩
              rw [← HDP.out.1, ← HDP.out.2]
              refine Vals.row (Vals.wider (fun i hi => ⟨by have := hi.1; omega, by have := hi.2.1; rw [hsE.out]; omega⟩) (HV.out.keep (fun i hi => HE i (by have := hi.1; omega) (by have := hi.1; omega) (by have := hi.1; omega)))) (fun i hi => ?_)
              rw [World.cell?_of_block (a := ⟨gk, 0 + i, none⟩) (HE gk (by omega) (by omega) (by omega)), Nat.zero_add]
              exact HOWN.out.cellAt i (by rw [← HOWN.out.1]; exact hi)
        | cons r' k' s' =>
          have hlM : Sh.len done + (1 + Sh.len s') = M := by
            have := HM2.out; rw [← hap, Sh.len_app] at this; simpa [Sh.len] using this
          have hsM : Sh.size done + (1 + Sh.size k' + Sh.size s') = Sh.size k := by
            have := congrArg Sh.size hap; rw [Sh.size_app] at this; simpa [Sh.size] using this
          have hokd := hokk.out
          rw [← hap, Sh.ok_app] at hokd
          have hlv := Sh.leaves_le done
          have hLL : L = Sh.size k + rest.length + 1 := HL2.out.symm
          have HC := Lib.hid (IH.out r' k' (Sh.flat s' ++ rest) a' (cap - 1 - Sh.size done) D P (c + Sh.leaves done) G wr.drew (by omega) ⟨hokd.2.1, hokd.2.2.1, hokd.2.2.2.1, trivial⟩
            (by rw [List.length_append, Sh.flat_length]; omega) (by unfold maxLen; omega) (by omega) (by omega) (by omega)
            (by have := hFd; simp only [Sh.flat, List.cons_append, List.append_assoc] at this; exact this)
            (by have := hGd.drew; simp only [Sh.size] at this; rw [List.length_append, Sh.flat_length, show Sh.size k' + (Sh.size s' + rest.length) + 1 = 1 + Sh.size k' + Sh.size s' + rest.length by omega]; exact this))
          have hjI : ((Sh.len done : Nat) : Int) < (M : Int) := by omega
          rw [S3] at hN hown hV
          have n5 : wr.cell? ⟨w.heap.size + 2, 5, none⟩ = some v := by have := hN.c 5; simpa using this
          have nl := hN.lt
          have nG : ¬ w.heap.size + 2 = G := by omega
          have HLL := Lib.hid hLL
          clear hLL
          have hlb : (Sh.len done + 1) * 64 ≤ 140737488355328 := by have := HLL.out; have := Sh.len_le done; omega
          have HN := Lib.hid hN.drew
          have HOWN := Lib.hid hown
          unfold NextPost nag nx at HC
          go_wp2_with fail
          go_region_law (first
            | (have ownA := World.ownsRow.alloc (own_but (w := wr.drew) HOWN.out (by omega) hbt5) (.cells (nx r' D P (c + Sh.leaves done) k' kv).toArray 50); have hbA : w.heap.size + 2 + 1 ≤ (w5.alloc (.cells (nx r' D P (c + Sh.leaves done) k' kv).toArray 50)).heap.size := (by simp; omega); refine step_append_node rfl (.tmp 47) (.tmp 52) rfl (w.heap.size + 2 + 1) v (Sh.len done) xs rfl ownA w5.heap.size (nx r' D P (c + Sh.leaves done) k' kv) rfl rfl (heap_alloc_new w5 _) (nx_one _ _ _ _ _ _ hkv.one) hlb hbA ?_; intro g6 cap6 w6 hown6 hg6 hor6 hlt6; have hB6 := (Below.refl (w.heap.size + 2 + 1) _).grown hg6 hbA (fun k hk => (ownA.lt k hk).1); have hN6 := (show Cel w6 (w.heap.size + 2) _ _ from (hB6.block (w.heap.size + 2) (by omega)).trans (hN5.alloc _)); have n66 : w6.cell? ⟨w.heap.size + 2, 5, none⟩ = some v := (by have := hN6.c 5; simpa using this); have z66 := hN6.free 5)
            | (go_simp; go_at_call 40; refine HC.out.mono ?_; rintro e w5 ⟨kv, a5, rfl, hkv, hgd5, hfd5, hbt5⟩; have hN5 := HN.out.but nG hbt5; have n55 : w5.cell? ⟨w.heap.size + 2, 5, none⟩ = some v := (by have := hN5.c 5; simpa using this); have nl5 := hN5.lt))
          all_goals (
            clear HC ownA n55 n66 z66 n5
            have WA := Lib.hid (show (w5.alloc (.cells (nx r' D P (c + Sh.leaves done) k' kv).toArray 50)).grownBy w6 v.ownBlock from hg6)
            have HB6 := Lib.hid (show Below (w.heap.size + 2 + 1) (w5.alloc (.cells (nx r' D P (c + Sh.leaves done) k' kv).toArray 50)) w6 from hB6)
            have HOR := (show v.ownBlock = some g6 ∨ g6 = (w5.alloc (.cells (nx r' D P (c + Sh.leaves done) k' kv).toArray 50)).heap.size from hor6)
            clear hg6 hB6 hor6
            go_wp2_with fail
            have hsz5 : (w5.alloc (.cells (nx r' D P (c + Sh.leaves done) k' kv).toArray 50)).heap.size = w5.heap.size + 1 := by simp
            rw [hsz5] at HOR
            have hs5 := hbt5.size
            have hdr : wr.drew.heap.size = wr.heap.size := rfl
            have hs6 := WA.out.size
            rw [hsz5] at hs6
            have hvlt : ∀ i, v.ownBlock = some i → i < wr.heap.size := fun i h => (HOWN.out.lt i h).2
            have hb6 : ∀ i, i < w5.heap.size → some i ≠ v.ownBlock → (w6.setCell ⟨w.heap.size + 2, 5, none⟩ (.slice (some ⟨g6, 0, none⟩) (Sh.len done + 1) cap6)).heap[i]? = (if i = w.heap.size + 2 then (w6.setCell ⟨w.heap.size + 2, 5, none⟩ (.slice (some ⟨g6, 0, none⟩) (Sh.len done + 1) cap6)).heap[i]? else w5.heap[i]?) := by
              intro i hi hne
              by_cases e : i = w.heap.size + 2
              · rw [if_pos e]
              · rw [if_neg e, heap_set_ne _ _ _ _ _ (Ne.symm e), WA.out.block i (by rw [hsz5]; omega) hne, heap_alloc_old _ _ hi]
            have hgl : ∀ i, i < w.heap.size + 2 + 1 → i < w5.heap.size → i ≠ w.heap.size + 2 → (w6.setCell ⟨w.heap.size + 2, 5, none⟩ (.slice (some ⟨g6, 0, none⟩) (Sh.len done + 1) cap6)).heap[i]? = w5.heap[i]? := by
              intro i hi h5 hne
              rw [heap_set_ne _ _ _ _ _ (Ne.symm hne), HB6.out.block i hi, heap_alloc_old _ _ h5]
            have hBF : But G w (w6.setCell ⟨w.heap.size + 2, 5, none⟩ (.slice (some ⟨g6, 0, none⟩) (Sh.len done + 1) cap6)) := by
              refine ⟨HB6.out.os.trans (hbt5.os.trans hBt.os), HB6.out.tape.trans (hbt5.tape.trans hBt.tape), HB6.out.output.trans (hbt5.output.trans hBt.output), by simp [World.setCell]; omega, fun i hi hne => ?_⟩
              rw [hgl i (by omega) (by omega) (by omega), hbt5.block i (by rw [hdr]; omega) hne]
              exact hBt.block i hi hne
            have hGF : (w6.setCell ⟨w.heap.size + 2, 5, none⟩ (.slice (some ⟨g6, 0, none⟩) (Sh.len done + 1) cap6)).heap[G]? = w5.heap[G]? := hgl G (by omega) (by omega) (by omega)
            refine ⟨⟨Sh.len done + 1, Sh.app done (.cons r' k' .nil), s', xs ++ nx r' D P (c + Sh.leaves done) k' kv, .slice (some ⟨g6, 0, none⟩) (Sh.len done + 1) cap6, a5, _, by rw [Sh.app_app]; exact hap, by rw [Sh.len_app]; rfl, rfl, ?_, ?_, fun h => absurd h (Nat.succ_ne_zero _), ?_, ?_, by rw [Sh.size_app], ?_, ?_, ?_, hBF⟩, by simp [intOf]; omega⟩
            · rw [S3]; exact hN6.set5 _
            · rw [S3]; exact own_but hown6 (by omega) ((But.refl _ _).set (w.heap.size + 2) 5 _ (Or.inl rfl))
            · rw [S3]
              have hsF : (w6.setCell ⟨w.heap.size + 2, 5, none⟩ (.slice (some ⟨g6, 0, none⟩) (Sh.len done + 1) cap6)).heap.size = w6.heap.size := by simp [World.setCell]
              have K1 : ∀ i, (w.heap.size + 2 + 1 ≤ i ∧ i < wr.heap.size ∧ some i ≠ v.ownBlock) → (w.heap.size + 2 + 1 ≤ i ∧ i < (w6.setCell ⟨w.heap.size + 2, 5, none⟩ (.slice (some ⟨g6, 0, none⟩) (Sh.len done + 1) cap6)).heap.size ∧ some i ≠ (Value.slice (some ⟨g6, 0, none⟩) (Sh.len done + 1) cap6).ownBlock) := by
                intro i ⟨h1, h2, h3⟩
                refine ⟨h1, by rw [hsF]; omega, ?_⟩
                show some i ≠ some g6
                rcases HOR with h | h
                · rw [← h]; exact h3
                · intro e; have := Option.some.inj e; omega
              have E1 : ∀ i, (w.heap.size + 2 + 1 ≤ i ∧ i < wr.heap.size ∧ some i ≠ v.ownBlock) → (w6.setCell ⟨w.heap.size + 2, 5, none⟩ (.slice (some ⟨g6, 0, none⟩) (Sh.len done + 1) cap6)).heap[i]? = wr.heap[i]? := by
                intro i ⟨h1, h2, h3⟩
                rw [hb6 i (by omega) h3, if_neg (by omega), hbt5.block i (by rw [hdr]; omega) (by omega)]
                rfl
              have K2 : ∀ i, (wr.drew.heap.size ≤ i ∧ i < w5.heap.size) → (w.heap.size + 2 + 1 ≤ i ∧ i < (w6.setCell ⟨w.heap.size + 2, 5, none⟩ (.slice (some ⟨g6, 0, none⟩) (Sh.len done + 1) cap6)).heap.size ∧ some i ≠ (Value.slice (some ⟨g6, 0, none⟩) (Sh.len done + 1) cap6).ownBlock) := by
                intro i ⟨h1, h2⟩
                refine ⟨by omega, by rw [hsF]; omega, ?_⟩
                show some i ≠ some g6
                intro e
                rcases HOR with h | h
                · have := hvlt g6 h; have := Option.some.inj e; omega
                · have := Option.some.inj e; omega
              have E2 : ∀ i, (wr.drew.heap.size ≤ i ∧ i < w5.heap.size) → (w6.setCell ⟨w.heap.size + 2, 5, none⟩ (.slice (some ⟨g6, 0, none⟩) (Sh.len done + 1) cap6)).heap[i]? = w5.heap[i]? := by
                intro i ⟨h1, h2⟩
                rw [hb6 i (by omega) (fun e => by have := hvlt i e.symm; omega), if_neg (by omega)]
              exact Vals.snoc (Vals.wider K1 (hV.keep E1)) (KidsOf.wider K2 (hkv.keep E2))
            · have h := hgd5
              unfold Gd at h ⊢
              rw [hGF, h, List.length_append, Sh.flat_length, Sh.leaves_app, leaves_cons]
              simp only [Sh.leaves, Sh.size, Nat.add_zero, Nat.add_assoc]
              congr 5
              omega
            · refine Fds.keepG hfd5 (fun i hi => hgl i (by omega) (by omega) (by omega))
            · exact (hgl (w.heap.size + 1) (by omega) (by omega) (by omega)).trans (Cel.but hF.drew (by omega) hbt5)
            · exact (hgl w.heap.size (by omega) (by omega) (by omega)).trans (Cel.but hRs.drew (by omega) hbt5))
    · have hwd := hwd2 (by omega)
      have hwp := hwp2 (by omega)
      clear e0 e1 e2 e3 hwd2 hwp2
      go_enter Try.func40, Try.ntmps40
      go_wp2_with fail
      have R3 := (cel_new (w.setCell ⟨G, 0, none⟩ (.slice A (L - 1) (cap - 1))) #[.int .i64 0, .int .i64 0, .int .i64 0, .int .i64 0, .int .i64 0, .slice none 0 0] 50).alloc (.cells #[.int .i64 2, .int .i64 M] 32)
      have F3 := cel_new1 (w.setCell ⟨G, 0, none⟩ (.slice A (L - 1) (cap - 1))) (.cells #[.int .i64 0, .int .i64 0, .int .i64 0, .int .i64 0, .int .i64 0, .slice none 0 0] 50) #[.int .i64 2, .int .i64 M] 32
      have G3 := (HG2.out.alloc (.cells #[.int .i64 0, .int .i64 0, .int .i64 0, .int .i64 0, .int .i64 0, .slice none 0 0] 50)).alloc (.cells #[.int .i64 2, .int .i64 M] 32)
      have B3 := (HB2.out.alloc (.cells #[.int .i64 0, .int .i64 0, .int .i64 0, .int .i64 0, .int .i64 0, .slice none 0 0] 50)).alloc (.cells #[.int .i64 2, .int .i64 M] 32)
      have A3 := HF2.out.but (w' := ((w.setCell ⟨G, 0, none⟩ (.slice A (L - 1) (cap - 1))).alloc (.cells #[.int .i64 0, .int .i64 0, .int .i64 0, .int .i64 0, .int .i64 0, .slice none 0 0] 50)).alloc (.cells #[.int .i64 2, .int .i64 M] 32)) (Nat.le_refl _) (by rw [hs2]; exact hGl) (((But.refl _ _).alloc _).alloc _)
      have S3 : (((w.setCell ⟨G, 0, none⟩ (.slice A (L - 1) (cap - 1))).alloc (.cells #[.int .i64 0, .int .i64 0, .int .i64 0, .int .i64 0, .int .i64 0, .slice none 0 0] 50)).alloc (.cells #[.int .i64 2, .int .i64 M] 32)).heap.size = w.heap.size + 2 := by simp [hs2]
      rw [hs2] at R3 F3
      generalize ((w.setCell ⟨G, 0, none⟩ (.slice A (L - 1) (cap - 1))).alloc (.cells #[.int .i64 0, .int .i64 0, .int .i64 0, .int .i64 0, .int .i64 0, .slice none 0 0] 50)).alloc (.cells #[.int .i64 2, .int .i64 M] 32) = X at *
      clear HG2 HB2 HF2 hs2 c0 c1 g0 g1 gz
      have f0 : X.cell? ⟨w.heap.size + 1, 0, none⟩ = some (.int .i64 2) := by have := F3.c 0; simpa using this
      have f1 : X.cell? ⟨w.heap.size + 1, 1, none⟩ = some (.int .i64 (M : Int)) := by have := F3.c 1; simpa using this
      have g1 := G3.c1
      have f2 : w.heap.size + 1 < X.heap.size := by omega
      have f3 : G < X.heap.size := by omega
      have f4 : ¬ w.heap.size + 1 = X.heap.size := by omega
      have f5 : ¬ G = X.heap.size := by omega
      have HF4 := Lib.hid F3
      have HG4 := Lib.hid G3
      have HR4 := Lib.hid R3
      have HB4 := Lib.hid B3
      have HA4 := Lib.hid A3
      clear F3 G3 R3 B3 A3
      go_region
      go_wp2_with fail
      go_loopw [44] (fun i wr => ∃ (j : Nat) (done s : Sh.F) (xs : List Value) (v : Value) (a' : Option Addr) (cx : Nat), Sh.app done s = k ∧ Sh.len done = j ∧ i = .int .i64 j ∧ Cel wr X.heap.size #[.int .i64 2, .int .i64 (D : Int), .int .i64 (P : Int), .int .i64 (c : Int), .int .i64 0, v] 50 ∧ wr.ownsRow (X.heap.size + 1) 50 6 v j xs ∧ (j = 0 → v = .slice none 0 0) ∧ Vals wr (fun i => X.heap.size + 1 ≤ i ∧ i < wr.heap.size ∧ some i ≠ v.ownBlock) done xs D P c ∧ Gd wr G (.slice a' (Sh.size s + rest.length) cx) (c + Sh.leaves done) ∧ cx = cap - 1 - Sh.size done ∧ Fds wr G a' (Sh.flat s ++ rest) ∧ Cel wr (w.heap.size + 1) #[.int .i64 2, .int .i64 M] 32 ∧ Cel wr w.heap.size #[.int .i64 0, .int .i64 0, .int .i64 0, .int .i64 0, .int .i64 0, .slice none 0 0] 50 ∧ But G w wr) (fun i _ => M - (intOf i).toNat)
      case atStart =>
        have hLL : L - 1 = Sh.size k + rest.length := by have := HL2.out; omega
        refine ⟨0, .nil, k, [], .slice none 0 0, A, cap - 1, rfl, rfl, rfl, (cel_new X _ _).drew, ⟨rfl, Or.inl ⟨rfl, rfl⟩⟩, fun _ => rfl, rfl, ?_, by simp [Sh.size], ?_, (HF4.out.alloc _).drew, (HR4.out.alloc _).drew, (HB4.out.alloc _).drew⟩
        · have := (HG4.out.alloc (.cells #[.int .i64 2, .int .i64 (D : Int), .int .i64 (P : Int), .int .i64 (c : Int), .int .i64 0, .slice none 0 0] 50)).drew
          rw [hLL] at this; exact this
        · exact HA4.out.but (Nat.le_refl _) f3 ((But.refl G X).alloc _).drew
      case round =>
        obtain ⟨j, done, s, xs, v, a', cx, hap, rfl, rfl, hN, hown, hv0, hV, hGd, rfl, hFd, hF, hRs, hBt⟩ := hrel
        cases s with
        | nil =>
          rw [Sh.app_nil] at hap
          subst hap
          have hM := HM2.out
          have hjI : ¬ ((Sh.len done : Nat) : Int) < (M : Int) := by omega
          rw [S3] at hN hown hV
          have hNl := hN.lt
          have n4 : wr.frozen? ⟨w.heap.size + 2, 4, none⟩ = false := hN.free 4
          have f1 : wr.cell? ⟨w.heap.size + 1, 1, none⟩ = some (.int .i64 (M : Int)) := by have := hF.c 1; simpa using this
          have q1 := hGd.c1
          have qz := hGd.free 1
          have hlv := Sh.leaves_le done
          have n0 : wr.cell? ⟨w.heap.size + 2, 0, none⟩ = some (.int .i64 2) := by have := hN.c 0; simpa using this
          have n1 : wr.cell? ⟨w.heap.size + 2, 1, none⟩ = some (.int .i64 (D : Int)) := by have := hN.c 1; simpa using this
          have n2 : wr.cell? ⟨w.heap.size + 2, 2, none⟩ = some (.int .i64 (P : Int)) := by have := hN.c 2; simpa using this
          have n3 : wr.cell? ⟨w.heap.size + 2, 3, none⟩ = some (.int .i64 (c : Int)) := by have := hN.c 3; simpa using this
          have n4 : wr.cell? ⟨w.heap.size + 2, 4, none⟩ = some (.int .i64 0) := by have := hN.c 4; simpa using this
          have n5 : wr.cell? ⟨w.heap.size + 2, 5, none⟩ = some v := by have := hN.c 5; simpa using this
          have r0 : wr.cell? ⟨w.heap.size, 0, none⟩ = some (.int .i64 0) := by have := hRs.c 0; simpa using this
          have z0 : wr.frozen? ⟨w.heap.size, 0, none⟩ = false := hRs.free 0
          have r1 : wr.cell? ⟨w.heap.size, 1, none⟩ = some (.int .i64 0) := by have := hRs.c 1; simpa using this
          have z1 : wr.frozen? ⟨w.heap.size, 1, none⟩ = false := hRs.free 1
          have r2 : wr.cell? ⟨w.heap.size, 2, none⟩ = some (.int .i64 0) := by have := hRs.c 2; simpa using this
          have z2 : wr.frozen? ⟨w.heap.size, 2, none⟩ = false := hRs.free 2
          have r3 : wr.cell? ⟨w.heap.size, 3, none⟩ = some (.int .i64 0) := by have := hRs.c 3; simpa using this
          have z3 : wr.frozen? ⟨w.heap.size, 3, none⟩ = false := hRs.free 3
          have r4 : wr.cell? ⟨w.heap.size, 4, none⟩ = some (.int .i64 0) := by have := hRs.c 4; simpa using this
          have z4 : wr.frozen? ⟨w.heap.size, 4, none⟩ = false := hRs.free 4
          have r5 : wr.cell? ⟨w.heap.size, 5, none⟩ = some (.slice none 0 0) := by have := hRs.c 5; simpa using this
          have z5 : wr.frozen? ⟨w.heap.size, 5, none⟩ = false := hRs.free 5
          have HN := Lib.hid hN
          have HOWN := Lib.hid hown
          have HV := Lib.hid hV
          have HGD := Lib.hid hGd
          have HFD := Lib.hid hFd
          have HRS := Lib.hid hRs
          have HBT := Lib.hid hBt
          have HF5 := Lib.hid hF
          clear hN hown hV hGd hFd hRs hBt hF
          have hn1 : ¬ w.heap.size + 1 = w.heap.size + 2 := by omega
          have hn9 : ¬ G = w.heap.size + 2 := by omega
          cases done with
          | nil =>
            have hM0 : (M : Int) = 0 := by rw [← hM]; rfl
            have hv := hv0 rfl
            subst hv
            go_wp2_with fail
            have eT := Lib.hid (show ((.int .i64 ((c : Int) + ((Sh.leaves .nil : Nat) : Int) + 1)) : Value) = .int .i64 ((c + lv1 .nil : Nat) : Int) by simp [Sh.leaves, lv1])
            have CS := cel_six (show Cel ((wr.setCell ⟨G, 1, none⟩ (.int .i64 ((c : Int) + ((Sh.leaves .nil : Nat) : Int) + 1))).setCell ⟨w.heap.size + 2, 4, none⟩ (.int .i64 ((c : Int) + ((Sh.leaves .nil : Nat) : Int) + 1))) w.heap.size #[.int .i64 0, .int .i64 0, .int .i64 0, .int .i64 0, .int .i64 0, .slice none 0 0] 50 from ((HRS.out.far G 1 (.int .i64 ((c : Int) + ((Sh.leaves .nil : Nat) : Int) + 1)) (by omega)).far (w.heap.size + 2) 4 (.int .i64 ((c : Int) + ((Sh.leaves .nil : Nat) : Int) + 1)) (by omega))) (.int .i64 2) (.int .i64 (D : Int)) (.int .i64 (P : Int)) (.int .i64 (c : Int)) (.int .i64 ((c : Int) + ((Sh.leaves .nil : Nat) : Int) + 1)) (.slice none 0 0)
            have HE : ∀ i, i ≠ G → i ≠ w.heap.size + 2 → i ≠ w.heap.size → ((((((((wr.setCell ⟨G, 1, none⟩ (.int .i64 ((c : Int) + ((Sh.leaves .nil : Nat) : Int) + 1))).setCell ⟨w.heap.size + 2, 4, none⟩ (.int .i64 ((c : Int) + ((Sh.leaves .nil : Nat) : Int) + 1))).setCell ⟨w.heap.size, 0, none⟩ (.int .i64 2)).setCell ⟨w.heap.size, 1, none⟩ (.int .i64 (D : Int))).setCell ⟨w.heap.size, 2, none⟩ (.int .i64 (P : Int))).setCell ⟨w.heap.size, 3, none⟩ (.int .i64 (c : Int))).setCell ⟨w.heap.size, 4, none⟩ (.int .i64 ((c : Int) + ((Sh.leaves .nil : Nat) : Int) + 1))).setCell ⟨w.heap.size, 5, none⟩ (.slice none 0 0)).heap[i]? = wr.heap[i]? := by
              intro i h1 h2 h3
              simp [World.setCell, Array.getElem?_modify, Ne.symm h1, Ne.symm h2, Ne.symm h3]
            have HBE : But G w ((((((((wr.setCell ⟨G, 1, none⟩ (.int .i64 ((c : Int) + ((Sh.leaves .nil : Nat) : Int) + 1))).setCell ⟨w.heap.size + 2, 4, none⟩ (.int .i64 ((c : Int) + ((Sh.leaves .nil : Nat) : Int) + 1))).setCell ⟨w.heap.size, 0, none⟩ (.int .i64 2)).setCell ⟨w.heap.size, 1, none⟩ (.int .i64 (D : Int))).setCell ⟨w.heap.size, 2, none⟩ (.int .i64 (P : Int))).setCell ⟨w.heap.size, 3, none⟩ (.int .i64 (c : Int))).setCell ⟨w.heap.size, 4, none⟩ (.int .i64 ((c : Int) + ((Sh.leaves .nil : Nat) : Int) + 1))).setCell ⟨w.heap.size, 5, none⟩ (.slice none 0 0)) := ((((((((HBT.out.set G 1 _ (Or.inl rfl)).set (w.heap.size + 2) 4 _ (Or.inr (by omega))).set w.heap.size 0 _ (Or.inr (Nat.le_refl _))).set w.heap.size 1 _ (Or.inr (Nat.le_refl _))).set w.heap.size 2 _ (Or.inr (Nat.le_refl _))).set w.heap.size 3 _ (Or.inr (Nat.le_refl _))).set w.heap.size 4 _ (Or.inr (Nat.le_refl _))).set w.heap.size 5 _ (Or.inr (Nat.le_refl _)))
            have hsE := Lib.hid (show ((((((((wr.setCell ⟨G, 1, none⟩ (.int .i64 ((c : Int) + ((Sh.leaves .nil : Nat) : Int) + 1))).setCell ⟨w.heap.size + 2, 4, none⟩ (.int .i64 ((c : Int) + ((Sh.leaves .nil : Nat) : Int) + 1))).setCell ⟨w.heap.size, 0, none⟩ (.int .i64 2)).setCell ⟨w.heap.size, 1, none⟩ (.int .i64 (D : Int))).setCell ⟨w.heap.size, 2, none⟩ (.int .i64 (P : Int))).setCell ⟨w.heap.size, 3, none⟩ (.int .i64 (c : Int))).setCell ⟨w.heap.size, 4, none⟩ (.int .i64 ((c : Int) + ((Sh.leaves .nil : Nat) : Int) + 1))).setCell ⟨w.heap.size, 5, none⟩ (.slice none 0 0)).heap.size = wr.heap.size by simp [World.setCell])
            have HGE : Gd ((((((((wr.setCell ⟨G, 1, none⟩ (.int .i64 ((c : Int) + ((Sh.leaves .nil : Nat) : Int) + 1))).setCell ⟨w.heap.size + 2, 4, none⟩ (.int .i64 ((c : Int) + ((Sh.leaves .nil : Nat) : Int) + 1))).setCell ⟨w.heap.size, 0, none⟩ (.int .i64 2)).setCell ⟨w.heap.size, 1, none⟩ (.int .i64 (D : Int))).setCell ⟨w.heap.size, 2, none⟩ (.int .i64 (P : Int))).setCell ⟨w.heap.size, 3, none⟩ (.int .i64 (c : Int))).setCell ⟨w.heap.size, 4, none⟩ (.int .i64 ((c : Int) + ((Sh.leaves .nil : Nat) : Int) + 1))).setCell ⟨w.heap.size, 5, none⟩ (.slice none 0 0)) G (.slice a' rest.length (cap - 1 - Sh.size .nil)) (c + lv1 .nil) := by
              have HG0 := HGD.out
              rw [show Sh.size Sh.F.nil + rest.length = rest.length by simp [Sh.size]] at HG0
              exact ((((((((HG0.s1e _ (c + lv1 .nil) eT.out).far (w.heap.size + 2) 4 (.int .i64 ((c : Int) + ((Sh.leaves .nil : Nat) : Int) + 1)) (by omega)).far w.heap.size 0 (.int .i64 2) (by omega)).far w.heap.size 1 (.int .i64 (D : Int)) (by omega)).far w.heap.size 2 (.int .i64 (P : Int)) (by omega)).far w.heap.size 3 (.int .i64 (c : Int)) (by omega)).far w.heap.size 4 (.int .i64 ((c : Int) + ((Sh.leaves .nil : Nat) : Int) + 1)) (by omega)).far w.heap.size 5 (.slice none 0 0) (by omega))
            have HFE : Fds ((((((((wr.setCell ⟨G, 1, none⟩ (.int .i64 ((c : Int) + ((Sh.leaves .nil : Nat) : Int) + 1))).setCell ⟨w.heap.size + 2, 4, none⟩ (.int .i64 ((c : Int) + ((Sh.leaves .nil : Nat) : Int) + 1))).setCell ⟨w.heap.size, 0, none⟩ (.int .i64 2)).setCell ⟨w.heap.size, 1, none⟩ (.int .i64 (D : Int))).setCell ⟨w.heap.size, 2, none⟩ (.int .i64 (P : Int))).setCell ⟨w.heap.size, 3, none⟩ (.int .i64 (c : Int))).setCell ⟨w.heap.size, 4, none⟩ (.int .i64 ((c : Int) + ((Sh.leaves .nil : Nat) : Int) + 1))).setCell ⟨w.heap.size, 5, none⟩ (.slice none 0 0)) G a' rest := by
              have := HFD.out
              simp only [Sh.flat, List.nil_append] at this
              exact this.keepG (fun i hi => HE i (by omega) (by omega) (by omega))
            generalize ((((((((wr.setCell ⟨G, 1, none⟩ (.int .i64 ((c : Int) + ((Sh.leaves .nil : Nat) : Int) + 1))).setCell ⟨w.heap.size + 2, 4, none⟩ (.int .i64 ((c : Int) + ((Sh.leaves .nil : Nat) : Int) + 1))).setCell ⟨w.heap.size, 0, none⟩ (.int .i64 2)).setCell ⟨w.heap.size, 1, none⟩ (.int .i64 (D : Int))).setCell ⟨w.heap.size, 2, none⟩ (.int .i64 (P : Int))).setCell ⟨w.heap.size, 3, none⟩ (.int .i64 (c : Int))).setCell ⟨w.heap.size, 4, none⟩ (.int .i64 ((c : Int) + ((Sh.leaves .nil : Nat) : Int) + 1))).setCell ⟨w.heap.size, 5, none⟩ (.slice none 0 0)) = WE at CS HE HBE hsE HGE HFE ⊢
            have z0 : WE.cell? ⟨w.heap.size, 0, none⟩ = some (.int .i64 2) := CS.c 0
            have z1 : WE.cell? ⟨w.heap.size, 1, none⟩ = some (.int .i64 (D : Int)) := CS.c 1
            have z2 : WE.cell? ⟨w.heap.size, 2, none⟩ = some (.int .i64 (P : Int)) := CS.c 2
            have z3 : WE.cell? ⟨w.heap.size, 3, none⟩ = some (.int .i64 (c : Int)) := CS.c 3
            have z4 : WE.cell? ⟨w.heap.size, 4, none⟩ = some (.int .i64 ((c : Int) + ((Sh.leaves .nil : Nat) : Int) + 1)) := CS.c 4
            have z5 : WE.cell? ⟨w.heap.size, 5, none⟩ = some (.slice none 0 0) := CS.c 5
            clear CS
            refine bodyPost_ret (v := .agg #[.int .i64 2, .int .i64 (D : Int), .int .i64 (P : Int), .int .i64 (c : Int), (.int .i64 ((c : Int) + ((Sh.leaves .nil : Nat) : Int) + 1)), (.slice none 0 0)]) (by simp [results, Try.results40, go_sem, z0, z1, z2, z3, z4, z5]) rfl ⟨(.slice none 0 0), a', ?_, ?_, HGE, HFE, HBE⟩
            · unfold nag nx
              rw [eT.out, ← HDP.out.1, ← HDP.out.2]; rfl
            · exact Or.inl ⟨rfl, rfl⟩
          | cons rr kk ss =>
            have hM0 : ¬ (M : Int) = 0 := by rw [← hM]; simp only [Sh.len]; omega
            rcases HOWN.out.2 with ⟨-, h0⟩ | ⟨gk, capk, cur, hv, hgk, hgb, -, -, -, -⟩
            · exact absurd h0 (by simp only [Sh.len]; omega)
            subst hv
            clear hM
            go_wp2_with fail
            have eT := Lib.hid (show ((.int .i64 ((c : Int) + ((Sh.leaves (.cons rr kk ss) : Nat) : Int))) : Value) = .int .i64 ((c + lv1 (.cons rr kk ss) : Nat) : Int) by simp [lv1])
            have CS := cel_six (show Cel (wr.setCell ⟨w.heap.size + 2, 4, none⟩ (.int .i64 ((c : Int) + ((Sh.leaves (.cons rr kk ss) : Nat) : Int)))) w.heap.size #[.int .i64 0, .int .i64 0, .int .i64 0, .int .i64 0, .int .i64 0, .slice none 0 0] 50 from (HRS.out.far (w.heap.size + 2) 4 (.int .i64 ((c : Int) + ((Sh.leaves (.cons rr kk ss) : Nat) : Int))) (by omega))) (.int .i64 2) (.int .i64 (D : Int)) (.int .i64 (P : Int)) (.int .i64 (c : Int)) (.int .i64 ((c : Int) + ((Sh.leaves (.cons rr kk ss) : Nat) : Int))) (.slice (some ⟨gk, 0, none⟩) (Sh.len (.cons rr kk ss)) capk)
            have HE : ∀ i, i ≠ G → i ≠ w.heap.size + 2 → i ≠ w.heap.size → (((((((wr.setCell ⟨w.heap.size + 2, 4, none⟩ (.int .i64 ((c : Int) + ((Sh.leaves (.cons rr kk ss) : Nat) : Int)))).setCell ⟨w.heap.size, 0, none⟩ (.int .i64 2)).setCell ⟨w.heap.size, 1, none⟩ (.int .i64 (D : Int))).setCell ⟨w.heap.size, 2, none⟩ (.int .i64 (P : Int))).setCell ⟨w.heap.size, 3, none⟩ (.int .i64 (c : Int))).setCell ⟨w.heap.size, 4, none⟩ (.int .i64 ((c : Int) + ((Sh.leaves (.cons rr kk ss) : Nat) : Int)))).setCell ⟨w.heap.size, 5, none⟩ (.slice (some ⟨gk, 0, none⟩) (Sh.len (.cons rr kk ss)) capk)).heap[i]? = wr.heap[i]? := by
              intro i h1 h2 h3
              simp [World.setCell, Array.getElem?_modify, Ne.symm h2, Ne.symm h3]
            have HBE : But G w (((((((wr.setCell ⟨w.heap.size + 2, 4, none⟩ (.int .i64 ((c : Int) + ((Sh.leaves (.cons rr kk ss) : Nat) : Int)))).setCell ⟨w.heap.size, 0, none⟩ (.int .i64 2)).setCell ⟨w.heap.size, 1, none⟩ (.int .i64 (D : Int))).setCell ⟨w.heap.size, 2, none⟩ (.int .i64 (P : Int))).setCell ⟨w.heap.size, 3, none⟩ (.int .i64 (c : Int))).setCell ⟨w.heap.size, 4, none⟩ (.int .i64 ((c : Int) + ((Sh.leaves (.cons rr kk ss) : Nat) : Int)))).setCell ⟨w.heap.size, 5, none⟩ (.slice (some ⟨gk, 0, none⟩) (Sh.len (.cons rr kk ss)) capk)) := (((((((HBT.out.set (w.heap.size + 2) 4 _ (Or.inr (by omega))).set w.heap.size 0 _ (Or.inr (Nat.le_refl _))).set w.heap.size 1 _ (Or.inr (Nat.le_refl _))).set w.heap.size 2 _ (Or.inr (Nat.le_refl _))).set w.heap.size 3 _ (Or.inr (Nat.le_refl _))).set w.heap.size 4 _ (Or.inr (Nat.le_refl _))).set w.heap.size 5 _ (Or.inr (Nat.le_refl _)))
            have hsE := Lib.hid (show (((((((wr.setCell ⟨w.heap.size + 2, 4, none⟩ (.int .i64 ((c : Int) + ((Sh.leaves (.cons rr kk ss) : Nat) : Int)))).setCell ⟨w.heap.size, 0, none⟩ (.int .i64 2)).setCell ⟨w.heap.size, 1, none⟩ (.int .i64 (D : Int))).setCell ⟨w.heap.size, 2, none⟩ (.int .i64 (P : Int))).setCell ⟨w.heap.size, 3, none⟩ (.int .i64 (c : Int))).setCell ⟨w.heap.size, 4, none⟩ (.int .i64 ((c : Int) + ((Sh.leaves (.cons rr kk ss) : Nat) : Int)))).setCell ⟨w.heap.size, 5, none⟩ (.slice (some ⟨gk, 0, none⟩) (Sh.len (.cons rr kk ss)) capk)).heap.size = wr.heap.size by simp [World.setCell])
            have HGE : Gd (((((((wr.setCell ⟨w.heap.size + 2, 4, none⟩ (.int .i64 ((c : Int) + ((Sh.leaves (.cons rr kk ss) : Nat) : Int)))).setCell ⟨w.heap.size, 0, none⟩ (.int .i64 2)).setCell ⟨w.heap.size, 1, none⟩ (.int .i64 (D : Int))).setCell ⟨w.heap.size, 2, none⟩ (.int .i64 (P : Int))).setCell ⟨w.heap.size, 3, none⟩ (.int .i64 (c : Int))).setCell ⟨w.heap.size, 4, none⟩ (.int .i64 ((c : Int) + ((Sh.leaves (.cons rr kk ss) : Nat) : Int)))).setCell ⟨w.heap.size, 5, none⟩ (.slice (some ⟨gk, 0, none⟩) (Sh.len (.cons rr kk ss)) capk)) G (.slice a' rest.length (cap - 1 - Sh.size (.cons rr kk ss))) (c + lv1 (.cons rr kk ss)) := by
              have HG0 := HGD.out
              rw [show Sh.size Sh.F.nil + rest.length = rest.length by simp [Sh.size]] at HG0
              rw [show lv1 (.cons rr kk ss) = Sh.leaves (.cons rr kk ss) from rfl]
              exact (((((((HG0.far (w.heap.size + 2) 4 (.int .i64 ((c : Int) + ((Sh.leaves (.cons rr kk ss) : Nat) : Int))) (by omega)).far w.heap.size 0 (.int .i64 2) (by omega)).far w.heap.size 1 (.int .i64 (D : Int)) (by omega)).far w.heap.size 2 (.int .i64 (P : Int)) (by omega)).far w.heap.size 3 (.int .i64 (c : Int)) (by omega)).far w.heap.size 4 (.int .i64 ((c : Int) + ((Sh.leaves (.cons rr kk ss) : Nat) : Int))) (by omega)).far w.heap.size 5 (.slice (some ⟨gk, 0, none⟩) (Sh.len (.cons rr kk ss)) capk) (by omega))
            have HFE : Fds (((((((wr.setCell ⟨w.heap.size + 2, 4, none⟩ (.int .i64 ((c : Int) + ((Sh.leaves (.cons rr kk ss) : Nat) : Int)))).setCell ⟨w.heap.size, 0, none⟩ (.int .i64 2)).setCell ⟨w.heap.size, 1, none⟩ (.int .i64 (D : Int))).setCell ⟨w.heap.size, 2, none⟩ (.int .i64 (P : Int))).setCell ⟨w.heap.size, 3, none⟩ (.int .i64 (c : Int))).setCell ⟨w.heap.size, 4, none⟩ (.int .i64 ((c : Int) + ((Sh.leaves (.cons rr kk ss) : Nat) : Int)))).setCell ⟨w.heap.size, 5, none⟩ (.slice (some ⟨gk, 0, none⟩) (Sh.len (.cons rr kk ss)) capk)) G a' rest := by
              have := HFD.out
              simp only [Sh.flat, List.nil_append] at this
              exact this.keepG (fun i hi => HE i (by omega) (by omega) (by omega))
            generalize (((((((wr.setCell ⟨w.heap.size + 2, 4, none⟩ (.int .i64 ((c : Int) + ((Sh.leaves (.cons rr kk ss) : Nat) : Int)))).setCell ⟨w.heap.size, 0, none⟩ (.int .i64 2)).setCell ⟨w.heap.size, 1, none⟩ (.int .i64 (D : Int))).setCell ⟨w.heap.size, 2, none⟩ (.int .i64 (P : Int))).setCell ⟨w.heap.size, 3, none⟩ (.int .i64 (c : Int))).setCell ⟨w.heap.size, 4, none⟩ (.int .i64 ((c : Int) + ((Sh.leaves (.cons rr kk ss) : Nat) : Int)))).setCell ⟨w.heap.size, 5, none⟩ (.slice (some ⟨gk, 0, none⟩) (Sh.len (.cons rr kk ss)) capk)) = WE at CS HE HBE hsE HGE HFE ⊢
            have z0 : WE.cell? ⟨w.heap.size, 0, none⟩ = some (.int .i64 2) := CS.c 0
            have z1 : WE.cell? ⟨w.heap.size, 1, none⟩ = some (.int .i64 (D : Int)) := CS.c 1
            have z2 : WE.cell? ⟨w.heap.size, 2, none⟩ = some (.int .i64 (P : Int)) := CS.c 2
            have z3 : WE.cell? ⟨w.heap.size, 3, none⟩ = some (.int .i64 (c : Int)) := CS.c 3
            have z4 : WE.cell? ⟨w.heap.size, 4, none⟩ = some (.int .i64 ((c : Int) + ((Sh.leaves (.cons rr kk ss) : Nat) : Int))) := CS.c 4
            have z5 : WE.cell? ⟨w.heap.size, 5, none⟩ = some (.slice (some ⟨gk, 0, none⟩) (Sh.len (.cons rr kk ss)) capk) := CS.c 5
            clear CS
            refine bodyPost_ret (v := .agg #[.int .i64 2, .int .i64 (D : Int), .int .i64 (P : Int), .int .i64 (c : Int), (.int .i64 ((c : Int) + ((Sh.leaves (.cons rr kk ss) : Nat) : Int))), (.slice (some ⟨gk, 0, none⟩) (Sh.len (.cons rr kk ss)) capk)]) (by simp [results, Try.results40, go_sem, z0, z1, z2, z3, z4, z5]) rfl ⟨(.slice (some ⟨gk, 0, none⟩) (Sh.len (.cons rr kk ss)) capk), a', ?_, ?_, HGE, HFE, HBE⟩
            · unfold nag nx
              rw [eT.out, ← HDP.out.1, ← HDP.out.2]; rfl
            · refine Or.inr ⟨(fun h => by cases h), gk, capk, rfl, ⟨by omega, by rw [hsE.out]; exact lt_of_block hgb⟩, ?_⟩
              rw [← HDP.out.1, ← HDP.out.2]
              refine Vals.row (Vals.wider (fun i hi => ⟨by have := hi.1; omega, by have := hi.2.1; rw [hsE.out]; omega⟩) (HV.out.keep (fun i hi => HE i (by have := hi.1; omega) (by have := hi.1; omega) (by have := hi.1; omega)))) (fun i hi => ?_)
              rw [World.cell?_of_block (a := ⟨gk, 0 + i, none⟩) (HE gk (by omega) (by omega) (by omega)), Nat.zero_add]
              exact HOWN.out.cellAt i (by rw [← HOWN.out.1]; exact hi)
        | cons r' k' s' =>
          have hlM : Sh.len done + (1 + Sh.len s') = M := by
            have := HM2.out; rw [← hap, Sh.len_app] at this; simpa [Sh.len] using this
          have hsM : Sh.size done + (1 + Sh.size k' + Sh.size s') = Sh.size k := by
            have := congrArg Sh.size hap; rw [Sh.size_app] at this; simpa [Sh.size] using this
          have hokd := hokk.out
          rw [← hap, Sh.ok_app] at hokd
          have hlv := Sh.leaves_le done
          have hLL : L = Sh.size k + rest.length + 1 := HL2.out.symm
          have HC := Lib.hid (IH.out r' k' (Sh.flat s' ++ rest) a' (cap - 1 - Sh.size done) D P (c + Sh.leaves done) G wr.drew (by omega) ⟨hokd.2.1, hokd.2.2.1, hokd.2.2.2.1, trivial⟩
            (by rw [List.length_append, Sh.flat_length]; omega) (by unfold maxLen; omega) (by omega) (by omega) (by omega)
            (by have := hFd; simp only [Sh.flat, List.cons_append, List.append_assoc] at this; exact this)
            (by have := hGd.drew; simp only [Sh.size] at this; rw [List.length_append, Sh.flat_length, show Sh.size k' + (Sh.size s' + rest.length) + 1 = 1 + Sh.size k' + Sh.size s' + rest.length by omega]; exact this))
          have hjI : ((Sh.len done : Nat) : Int) < (M : Int) := by omega
          rw [S3] at hN hown hV
          have n5 : wr.cell? ⟨w.heap.size + 2, 5, none⟩ = some v := by have := hN.c 5; simpa using this
          have nl := hN.lt
          have nG : ¬ w.heap.size + 2 = G := by omega
          have HLL := Lib.hid hLL
          clear hLL
          have hlb : (Sh.len done + 1) * 64 ≤ 140737488355328 := by have := HLL.out; have := Sh.len_le done; omega
          have HN := Lib.hid hN.drew
          have HOWN := Lib.hid hown
          unfold NextPost nag nx at HC
          go_wp2_with fail
          go_region_law (first
            | (have ownA := World.ownsRow.alloc (own_but (w := wr.drew) HOWN.out (by omega) hbt5) (.cells (nx r' D P (c + Sh.leaves done) k' kv).toArray 50); have hbA : w.heap.size + 2 + 1 ≤ (w5.alloc (.cells (nx r' D P (c + Sh.leaves done) k' kv).toArray 50)).heap.size := (by simp; omega); refine step_append_node rfl (.tmp 47) (.tmp 52) rfl (w.heap.size + 2 + 1) v (Sh.len done) xs rfl ownA w5.heap.size (nx r' D P (c + Sh.leaves done) k' kv) rfl rfl (heap_alloc_new w5 _) (nx_one _ _ _ _ _ _ hkv.one) hlb hbA ?_; intro g6 cap6 w6 hown6 hg6 hor6 hlt6; have hB6 := (Below.refl (w.heap.size + 2 + 1) _).grown hg6 hbA (fun k hk => (ownA.lt k hk).1); have hN6 := (show Cel w6 (w.heap.size + 2) _ _ from (hB6.block (w.heap.size + 2) (by omega)).trans (hN5.alloc _)); have n66 : w6.cell? ⟨w.heap.size + 2, 5, none⟩ = some v := (by have := hN6.c 5; simpa using this); have z66 := hN6.free 5)
            | (go_simp; go_at_call 40; refine HC.out.mono ?_; rintro e w5 ⟨kv, a5, rfl, hkv, hgd5, hfd5, hbt5⟩; have hN5 := HN.out.but nG hbt5; have n55 : w5.cell? ⟨w.heap.size + 2, 5, none⟩ = some v := (by have := hN5.c 5; simpa using this); have nl5 := hN5.lt))
          all_goals (
            clear HC ownA n55 n66 z66 n5
            have WA := Lib.hid (show (w5.alloc (.cells (nx r' D P (c + Sh.leaves done) k' kv).toArray 50)).grownBy w6 v.ownBlock from hg6)
            have HB6 := Lib.hid (show Below (w.heap.size + 2 + 1) (w5.alloc (.cells (nx r' D P (c + Sh.leaves done) k' kv).toArray 50)) w6 from hB6)
            have HOR := (show v.ownBlock = some g6 ∨ g6 = (w5.alloc (.cells (nx r' D P (c + Sh.leaves done) k' kv).toArray 50)).heap.size from hor6)
            clear hg6 hB6 hor6
            go_wp2_with fail
            have hsz5 : (w5.alloc (.cells (nx r' D P (c + Sh.leaves done) k' kv).toArray 50)).heap.size = w5.heap.size + 1 := by simp
            rw [hsz5] at HOR
            have hs5 := hbt5.size
            have hdr : wr.drew.heap.size = wr.heap.size := rfl
            have hs6 := WA.out.size
            rw [hsz5] at hs6
            have hvlt : ∀ i, v.ownBlock = some i → i < wr.heap.size := fun i h => (HOWN.out.lt i h).2
            have hb6 : ∀ i, i < w5.heap.size → some i ≠ v.ownBlock → (w6.setCell ⟨w.heap.size + 2, 5, none⟩ (.slice (some ⟨g6, 0, none⟩) (Sh.len done + 1) cap6)).heap[i]? = (if i = w.heap.size + 2 then (w6.setCell ⟨w.heap.size + 2, 5, none⟩ (.slice (some ⟨g6, 0, none⟩) (Sh.len done + 1) cap6)).heap[i]? else w5.heap[i]?) := by
              intro i hi hne
              by_cases e : i = w.heap.size + 2
              · rw [if_pos e]
              · rw [if_neg e, heap_set_ne _ _ _ _ _ (Ne.symm e), WA.out.block i (by rw [hsz5]; omega) hne, heap_alloc_old _ _ hi]
            have hgl : ∀ i, i < w.heap.size + 2 + 1 → i < w5.heap.size → i ≠ w.heap.size + 2 → (w6.setCell ⟨w.heap.size + 2, 5, none⟩ (.slice (some ⟨g6, 0, none⟩) (Sh.len done + 1) cap6)).heap[i]? = w5.heap[i]? := by
              intro i hi h5 hne
              rw [heap_set_ne _ _ _ _ _ (Ne.symm hne), HB6.out.block i hi, heap_alloc_old _ _ h5]
            have hBF : But G w (w6.setCell ⟨w.heap.size + 2, 5, none⟩ (.slice (some ⟨g6, 0, none⟩) (Sh.len done + 1) cap6)) := by
              refine ⟨HB6.out.os.trans (hbt5.os.trans hBt.os), HB6.out.tape.trans (hbt5.tape.trans hBt.tape), HB6.out.output.trans (hbt5.output.trans hBt.output), by simp [World.setCell]; omega, fun i hi hne => ?_⟩
              rw [hgl i (by omega) (by omega) (by omega), hbt5.block i (by rw [hdr]; omega) hne]
              exact hBt.block i hi hne
            have hGF : (w6.setCell ⟨w.heap.size + 2, 5, none⟩ (.slice (some ⟨g6, 0, none⟩) (Sh.len done + 1) cap6)).heap[G]? = w5.heap[G]? := hgl G (by omega) (by omega) (by omega)
            refine ⟨⟨Sh.len done + 1, Sh.app done (.cons r' k' .nil), s', xs ++ nx r' D P (c + Sh.leaves done) k' kv, .slice (some ⟨g6, 0, none⟩) (Sh.len done + 1) cap6, a5, _, by rw [Sh.app_app]; exact hap, by rw [Sh.len_app]; rfl, rfl, ?_, ?_, fun h => absurd h (Nat.succ_ne_zero _), ?_, ?_, by rw [Sh.size_app], ?_, ?_, ?_, hBF⟩, by simp [intOf]; omega⟩
            · rw [S3]; exact hN6.set5 _
            · rw [S3]; exact own_but hown6 (by omega) ((But.refl _ _).set (w.heap.size + 2) 5 _ (Or.inl rfl))
            · rw [S3]
              have hsF : (w6.setCell ⟨w.heap.size + 2, 5, none⟩ (.slice (some ⟨g6, 0, none⟩) (Sh.len done + 1) cap6)).heap.size = w6.heap.size := by simp [World.setCell]
              have K1 : ∀ i, (w.heap.size + 2 + 1 ≤ i ∧ i < wr.heap.size ∧ some i ≠ v.ownBlock) → (w.heap.size + 2 + 1 ≤ i ∧ i < (w6.setCell ⟨w.heap.size + 2, 5, none⟩ (.slice (some ⟨g6, 0, none⟩) (Sh.len done + 1) cap6)).heap.size ∧ some i ≠ (Value.slice (some ⟨g6, 0, none⟩) (Sh.len done + 1) cap6).ownBlock) := by
                intro i ⟨h1, h2, h3⟩
                refine ⟨h1, by rw [hsF]; omega, ?_⟩
                show some i ≠ some g6
                rcases HOR with h | h
                · rw [← h]; exact h3
                · intro e; have := Option.some.inj e; omega
              have E1 : ∀ i, (w.heap.size + 2 + 1 ≤ i ∧ i < wr.heap.size ∧ some i ≠ v.ownBlock) → (w6.setCell ⟨w.heap.size + 2, 5, none⟩ (.slice (some ⟨g6, 0, none⟩) (Sh.len done + 1) cap6)).heap[i]? = wr.heap[i]? := by
                intro i ⟨h1, h2, h3⟩
                rw [hb6 i (by omega) h3, if_neg (by omega), hbt5.block i (by rw [hdr]; omega) (by omega)]
                rfl
              have K2 : ∀ i, (wr.drew.heap.size ≤ i ∧ i < w5.heap.size) → (w.heap.size + 2 + 1 ≤ i ∧ i < (w6.setCell ⟨w.heap.size + 2, 5, none⟩ (.slice (some ⟨g6, 0, none⟩) (Sh.len done + 1) cap6)).heap.size ∧ some i ≠ (Value.slice (some ⟨g6, 0, none⟩) (Sh.len done + 1) cap6).ownBlock) := by
                intro i ⟨h1, h2⟩
                refine ⟨by omega, by rw [hsF]; omega, ?_⟩
                show some i ≠ some g6
                intro e
                rcases HOR with h | h
                · have := hvlt g6 h; have := Option.some.inj e; omega
                · have := Option.some.inj e; omega
              have E2 : ∀ i, (wr.drew.heap.size ≤ i ∧ i < w5.heap.size) → (w6.setCell ⟨w.heap.size + 2, 5, none⟩ (.slice (some ⟨g6, 0, none⟩) (Sh.len done + 1) cap6)).heap[i]? = w5.heap[i]? := by
                intro i ⟨h1, h2⟩
                rw [hb6 i (by omega) (fun e => by have := hvlt i e.symm; omega), if_neg (by omega)]
              exact Vals.snoc (Vals.wider K1 (hV.keep E1)) (KidsOf.wider K2 (hkv.keep E2))
            · have h := hgd5
              unfold Gd at h ⊢
              rw [hGF, h, List.length_append, Sh.flat_length, Sh.leaves_app, leaves_cons]
              simp only [Sh.leaves, Sh.size, Nat.add_zero, Nat.add_assoc]
              congr 5
              omega
            · refine Fds.keepG hfd5 (fun i hi => hgl i (by omega) (by omega) (by omega))
            · exact (hgl (w.heap.size + 1) (by omega) (by omega) (by omega)).trans (Cel.but hF.drew (by omega) hbt5)
            · exact (hgl w.heap.size (by omega) (by omega) (by omega)).trans (Cel.but hRs.drew (by omega) hbt5))
end Go.Proofs.Ytjfkoledbegpfaa
