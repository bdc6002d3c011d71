/- The walks of shred.tried: what gives up is caught. -/
import Derived.Tactics2
import Derived.Defers
import Derived.Recover
import Derived.Laws.Pointers
import Derived.Test.YtjfkoledbegpfaaShS4
namespace Go.Proofs.Ytjfkoledbegpfaa
open Go.RowKit
set_option linter.unusedVariables false

set_option maxRecDepth 100000 in
theorem caught_panicking (p : Addr) (x : Int) (n : Int) (older : List PanicEntry) (w : World) (hc : w.cell? p = some (.int .i64 x)) (hz : w.frozen? p = false) :
    CallsD Try.prog 41 #[.pointer (some p)] (.panicking ({ v := .iface 78 (.int .i64 n), recovered := false } :: older)) w fun e u' w' =>
      e = .returned (.tuple #[]) ∧ u' = .panicking ({ v := .iface 78 (.int .i64 n), recovered := true } :: older) ∧ w' = w.setCell p (.int .i64 n) := by
  refine callsD_of_wpS Try.func41 rfl fun c₀ cs hu => ?_
  apply wpS_seq
  apply wpS_region
  simp [wpOpsS, go_sem, recoverD, hu, Try.ntmps41, Exit.thenS]
  refine wpS_of_wp ?_
  change Code.wp _ _ _ { tmps := #[.pointer (some p), (.iface 78 (.int .i64 n)), undef, undef, (.iface 78 (.int .i64 n)), undef, undef, undef, undef, undef, undef, undef, undef, undef, undef, undef], defers := [] } w
  have hta : ∀ w, (Instr.typeAssert (.iface 78 (.int .i64 n)) 20 78 true).run Try.prog w = .ok (.tuple #[.int .i64 n, .bool true]) w := fun _ => by kernel_rfl
  go_wp2_with fail
  simp [bodyPostS, results, Try.results41]

set_option maxRecDepth 100000 in
theorem caught_idle (p : Addr) (w : World) :
    CallsD Try.prog 41 #[.pointer (some p)] .returning w fun e u' w' => e = .returned (.tuple #[]) ∧ u' = .returning ∧ w' = w := by
  refine callsD_of_wpS Try.func41 rfl fun c₀ cs hu => ?_
  apply wpS_seq
  apply wpS_region
  simp [wpOpsS, go_sem, recoverD, hu, Try.ntmps41, Exit.thenS]
  refine wpS_of_wp ?_
  change Code.wp _ _ _ { tmps := #[.pointer (some p), Value.nilIface, undef, undef, Value.nilIface, undef, undef, undef, undef, undef, undef, undef, undef, undef, undef, undef], defers := [] } w
  go_wp2_with fail
  cases c₀
  simp_all [bodyPostS, results, Try.results41]

def TriedPost (w : World) (B S C N : Nat) (R : Except Nat (List (List Sh.Lv))) (vs : List Value) (e : Ending) (w' : World) : Prop :=
  ∃ vs', Fr S C w w' vs vs' ∧ match R with
    | .error n => e = .returned (.int .i64 (n : Int))
    | .ok cols' => e = .returned (.int .i64 0) ∧ ∃ a' cap', Shd w' B S C N a' [] cap' cols' vs' 0

set_option maxHeartbeats 2000000 in
set_option maxRecDepth 100000 in
theorem tried_recs (w : World) (B S C N : Nat) (a : Option Addr) (cap : Nat) (cols : List (List Sh.Lv)) (vs : List Value) (rs : List (List Nat)) (h : Shd w B S C N a [] cap cols vs (rs.length * 768))
    (k : Sh.F) (kv : Value) (hk : KidsOf w (fun i => i < B) k kv 0 0 0) (hne : k ≠ .nil) (hok : Sh.ok k) (hsz : Sh.size k ≤ 500) (hN : lv1 k = N)
    (Rb Tb : Nat) (ra : Option Addr) (rcap : Nat) (hRb : Cel w Rb #[.slice ra rs.length rcap] 23) (hTb : Cel w Tb (nx 0 0 0 0 k kv).toArray 50) (hn : ¬ Out S C vs Rb ∧ ¬ Out S C vs Tb) (hr : NRows w B ra rs) (hrc : rs.length ≤ rcap ∧ rcap ≤ maxLen) :
    Calls Try.prog 24 #[.func (.func 25) #[] #[.pointer (some ⟨Rb, 0, none⟩), .pointer (some ⟨S, 0, none⟩), .pointer (some ⟨Tb, 0, none⟩)]] w (TriedPost w B S C N (Sh.recsS k rs cols) vs) := by
  have hmf : ∀ (fn : Fn) (first cap : Array Value) (w : World), (Instr.makeFunc fn first cap).run Try.prog w = .ok (.func fn first cap) w := fun _ _ _ _ => rfl
  obtain ⟨R, hR⟩ : ∃ R, Sh.recsS k rs cols = R := ⟨_, rfl⟩
  rw [hR]
  have HR := Lib.hid hR
  have E1 := cel_new w #[.int .i64 0] 24
  have hbl := (Below.refl w.heap.size w).alloc (Nat.le_refl _) (.cells #[.int .i64 0] 24)
  have H1 := h.next hbl
  have K1 := hk.keep (fun i (hi : i < B) => heap_alloc_old w (.cells #[.int .i64 0] 24) (by have := h.bs; have := h.s.lt; omega))
  have C1 := recs_any (w.alloc (.cells #[.int .i64 0] 24)) B S C N a cap cols vs rs H1 k kv K1 hne hok hsz hN Rb Tb ra rcap (hRb.next hbl) (hTb.next hbl) hn (hr.below (hbl.mono (by have := h.bs; have := h.s.lt; omega))) hrc
  rw [hR] at C1
  have F1 := (Fr.refl S C w vs).alloc (.cells #[.int .i64 0] 24)
  have hno : ¬ Out S C vs w.heap.size := fun e => by have := (h.out e).2; omega
  have hB0 : B ≤ w.heap.size := by have := h.bs; have := h.s.lt; omega
  have HC1 := Lib.hid C1
  have HE1 := Lib.hid E1
  have HF1 := Lib.hid F1
  clear h hk hRb hTb hn hr hR E1 H1 K1 C1 F1 hbl
  go_enter_defers Try.func24, Try.ntmps24
  go_wp2_with fail
  refine HC1.out.mono ?_
  rintro e w5 ⟨vs5, hfr5, hm⟩
  have E5 := HE1.out.fr hno hfr5
  have c5 : w5.cell? ⟨w.heap.size, 0, none⟩ = some (.int .i64 0) := E5.c 0
  have z5 := E5.free 0
  have HF5 := Lib.hid (HF1.out.trans hfr5)
  cases R with
  | error n =>
    obtain rfl := hm
    change bodyPostD _ _ _ (Exit.panic _) _ w5
    refine _root_.Go.leaves_cons (f := 41) (args := #[.pointer (some ⟨w.heap.size, 0, none⟩)]) (by simp) (by simp [go_sem]) ?_
    refine (caught_panicking ⟨w.heap.size, 0, none⟩ 0 n [] w5 c5 z5).mono ?_
    rintro e u' w'' ⟨rfl, rfl, rfl⟩
    have HP := Lib.hid (show TriedPost w B S C N (.error n) vs (.returned (.int .i64 (n : Int))) (w5.setCell ⟨w.heap.size, 0, none⟩ (.int .i64 (n : Int))) from ⟨vs5, HF5.out.setFar _ _ _ (Nat.le_refl _), rfl⟩)
    simp [Leaves, settle, results, Try.results24, go_sem, c5]
    exact HP.out
  | ok cols' =>
    obtain ⟨rfl, a5, cap5, hsd5⟩ := hm
    have hBw := hB0
    go_wp2_with fail
    refine _root_.Go.leaves_cons (f := 41) (args := #[.pointer (some ⟨w.heap.size, 0, none⟩)]) (by simp) (by simp [go_sem]) ?_
    refine (caught_idle ⟨w.heap.size, 0, none⟩ _).mono ?_
    rintro e u' w'' ⟨rfl, rfl, rfl⟩
    have HP := Lib.hid (show TriedPost w B S C N (.ok cols') vs (.returned (.int .i64 0)) (w5.setCell ⟨w.heap.size, 0, none⟩ (.int .i64 0)) from ⟨vs5, HF5.out.setFar _ _ _ (Nat.le_refl _), rfl, a5, cap5, hsd5.setFar _ _ _ hBw (hfr5.notOut (by simp) hno)⟩)
    simp [Leaves, settle, results, Try.results24, go_sem, c5]
    exact HP.out
end Go.Proofs.Ytjfkoledbegpfaa
