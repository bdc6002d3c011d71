/- runs.placed hands back what goes through all runs. -/
import Derived.Test.YthmlafoceacliabRF1
namespace Go.Proofs.Ythmlafoceacliab
open Go.RowKit Go.Shelf
attribute [local go_sem] Oper.semAt_some
set_option linter.unusedVariables false

set_option maxRecDepth 100000 in
set_option maxHeartbeats 1000000 in
theorem placed1_nil {α : Type} (F : Fence) (n : Nat) (hf : F.fn 24) (hro : F.round = none) (lp Bs cap : Nat) (a : Option Addr) (J : List α → World → Prop) (W : World) (hBs : W.cell? ⟨Bs, 0, none⟩ = some (.slice a 0 cap)) (h0 : J [] W) :
    CallsIn F n Try.prog 24 #[.func (.yield lp) #[] #[], .pointer (some ⟨Bs, 0, none⟩)] W fun e W' => (∃ v, e = .returned v) ∧ J [] W' := by
  refine callsIn_of_wp Try.func24 rfl hf ?_ hro
  simp only [Try.ntmps24, List.size_toArray, List.length_cons, List.length_nil, Nat.reduceAdd, Nat.reduceSub, Array.replicate_succ, Array.replicate_zero, List.push_toArray, List.append_toArray, List.nil_append, List.cons_append]
  gi_wp2
  gi_loopw [8] (fun i wr => i = .int .i64 0 ∧ J [] wr) (fun _ _ => 0)
  case atStart => exact ⟨rfl, h0⟩
  case round =>
    obtain ⟨rfl, hJs⟩ := hrel
    gi_wp2
    go_end0
    exact ⟨⟨_, rfl⟩, hJs⟩

set_option maxHeartbeats 1000000 in
theorem placed_in (F : Fence) (n : Nat) (hf : F.fn 23) (hro : F.round = none) (a : Option Addr) (len cap : Nat) (w : World) :
    CallsIn F n Try.prog 23 #[.slice a len cap] w fun e w' => e = .returned (.func (.func 24) #[] #[.pointer (some ⟨w.heap.size, 0, none⟩)]) ∧ w' = w.alloc (.cells #[.slice a len cap] 23) := by
  refine callsIn_of_wp Try.func23 rfl hf ?_ hro
  simp only [Try.ntmps23, List.size_toArray, List.length_cons, List.length_nil, Nat.reduceAdd, Nat.reduceSub, Array.replicate_succ, Array.replicate_zero, List.push_toArray, List.append_toArray, List.nil_append, List.cons_append]
  gi_wp2
  go_ret
  exact ⟨rfl, rfl⟩

theorem placed_stops {α : Type} (val : α → PX) (xs : List α) (F : Fence) (n : Nat) (hf : F.fn 24) (hro : F.round = none) (hn : 1 ≤ n) (Bs n₀ cap : Nat) (a : Option Addr) (l : List R.Run) (hl : l.length ≤ maxLen) (hxs : xs.map val = plc l) (w : World) (hBs : Bs < w.heap.size) (hn₀ : n₀ ≤ w.heap.size)
    (hc : w.cell? ⟨Bs, 0, none⟩ = some (.slice a l.length cap)) (hu : Runs w n₀ a l) :
    SeqStopsK F n Try.prog 24 #[.pointer (some ⟨Bs, 0, none⟩)] (fun x : α => pxv (val x)) (Kp true n₀) (fun ys => ys = xs) (fun pre => pre <+: xs) xs.length w := fun lp J Jx W hW hJ _ hY h0 => by
  have hc' := (hW.cell (p := ⟨Bs, 0, none⟩) hBs).trans hc
  have hsz := hW.size
  by_cases hnil : l = []
  · subst hnil
    have hx : xs = [] := by
      have := congrArg List.length hxs
      simp [plc] at this; exact this
    subst hx
    exact (placed1_nil F n hf hro lp Bs cap a J W hc' h0).mono fun e W' ⟨he, hj⟩ => ⟨he, .inl ⟨_, rfl, hj⟩⟩
  · obtain ⟨b, off, rfl, hb, hcs⟩ := hu.below (hW.mono hn₀) hnil
    exact placed1_in val xs F n hf hro hn lp Bs n₀ b off cap l hl hxs hb J Jx W (by omega) hJ hY hc' hcs h0

theorem placed_weak (P : R.Run → Prop) (F : Fence) (n : Nat) (hf : F.fn 24) (hro : F.round = none) (hn : 1 ≤ n) (Bs n₀ cap : Nat) (a : Option Addr) (l : List R.Run) (hl : l.length ≤ maxLen) (hP : ∀ r ∈ l, P r) (w : World) (hBs : Bs < w.heap.size) (hn₀ : n₀ ≤ w.heap.size)
    (hc : w.cell? ⟨Bs, 0, none⟩ = some (.slice a l.length cap)) (hu : Runs w n₀ a l) :
    SeqStopsK F n Try.prog 24 #[.pointer (some ⟨Bs, 0, none⟩)] (fun x : { x : PX // P x.2 } => pxv x.1) (Kp false n₀) (fun ys => ys.map (fun x : { x : PX // P x.2 } => x.1.2) = l) (fun pre => pre.map (fun x : { x : PX // P x.2 } => x.1.2) <+: l) l.length w := fun lp J Jx W hW hJ _ hY h0 => by
  have hc' := (hW.cell (p := ⟨Bs, 0, none⟩) hBs).trans hc
  have hsz := hW.size
  by_cases hnil : l = []
  · subst hnil
    exact (placed1_nil F n hf hro lp Bs cap a J W hc' h0).mono fun e W' ⟨he, hj⟩ => ⟨he, .inl ⟨[], rfl, hj⟩⟩
  · obtain ⟨b, off, rfl, hb, hcs⟩ := hu.below (hW.mono hn₀) hnil
    exact placed1_weak P F n hf hro hn lp Bs n₀ b off cap l hl hP hb J Jx W (by omega) hJ hY hc' hcs h0

/-- one step of runs.sized -/
def stp (last : Nat) (x : PX) : Nat := if x.2.2 < 1 ∨ 64 < x.2.2 then 3 else if 0 < x.1 ∧ x.2.1 = last then 6 else if 64 < wrap64 (x.1 + x.2.2) then 2 else 0
def er (last : Nat) : List PX → Nat
  | [] => 0
  | x :: xs => if stp last x = 0 then er x.2.1 xs else stp last x
def lastOf (last : Nat) : List PX → Nat
  | [] => last
  | x :: xs => lastOf x.2.1 xs
def endOf (e : Int) : List PX → Int
  | [] => e
  | x :: xs => endOf (wrap64 (x.1 + x.2.2)) xs
theorem er_append (pre post : List PX) : ∀ last, er last (pre ++ post) = if er last pre = 0 then er (lastOf last pre) post else er last pre := by
  induction pre with
  | nil => intro last; simp [er, lastOf]
  | cons x pre ih =>
    intro last
    by_cases h : stp last x = 0
    · have e : ∀ ys, er last (x :: ys) = er x.2.1 ys := fun ys => if_pos h
      rw [List.cons_append, e, e, ih]; rfl
    · have e : ∀ ys, er last (x :: ys) = stp last x := fun ys => if_neg h
      rw [List.cons_append, e, e, if_neg h]
theorem er_snoc (pre : List PX) (x : PX) (h : er 0 pre = 0) : er 0 (pre ++ [x]) = stp (lastOf 0 pre) x := by
  rw [er_append, if_pos h]; simp only [er]; split <;> simp_all
theorem lastOf_snoc (pre : List PX) (x : PX) : ∀ last, lastOf last (pre ++ [x]) = x.2.1 := by
  induction pre with
  | nil => intro last; rfl
  | cons y pre ih => intro last; exact ih _
theorem endOf_snoc (pre : List PX) (x : PX) : ∀ e, endOf e (pre ++ [x]) = wrap64 (x.1 + x.2.2) := by
  induction pre with
  | nil => intro e; rfl
  | cons y pre ih => intro e; exact ih _
end Go.Proofs.Ythmlafoceacliab
