/- The walk of slices.Insert (one entry). -/
import Derived.Test.YtmjcdjekakaigaaFsDel
import Derived.Lib.Overlaps
import Derived.Lib.AppendZerosOnto
import Derived.Lib.AppendZeros
import Derived.Laws.IdiomCopy
import Derived.Laws.Externs
namespace Go.Proofs.Ytmjcdjekakaigaa.Fs
open Go.RowKit
set_option linter.unusedVariables false

theorem run_copy2 {P : Program} (w : World) (dT sT ty elem : TypeId) (b o dLen dCap : Nat) (a : Addr) (sLen sCap : Nat) (cs : List Value) (m : Nat)
    (hu : P.underlying dT = some (.slice elem)) (hs : (P.info? elem).map (·.size) = some 2) (hm : m = Nat.min sLen dLen) (hn : cs.length = m * 2)
    (hsrc : ∀ j v, cs[j]? = some v → w.cell? (a.add j) = some v) (hc : ∀ j, j < cs.length → (w.cell? ⟨b, o + j, none⟩).isSome = true) (hf : ∀ j, j < cs.length → w.frozen? ⟨b, o + j, none⟩ = false) (h1 : ∀ v ∈ cs, v.oneCell' = true) :
    (Builtin.copy_ #[dT, sT] ty #[.slice (some ⟨b, o, none⟩) dLen dCap, .slice (some a) sLen sCap]).run P w = .ok (goInt m) (w.setCells b o cs) := by
  have hl := run_loadCells_list (P := P) w a cs hsrc
  have hst := run_storeCells_cells (P := P) b o cs 0 w (by simpa using hc) (by simpa using hf) h1
  cases hq : P.info? elem with
  | none => simp [hq] at hs
  | some i =>
    have hi : i.size = 2 := by simpa [hq] using hs
    rw [hn] at hl
    simp [Builtin.copy_, run_underlying hu, Builtin.lenOf, Builtin.firstCells, sizeOf, typeInfo, hq, hi, ← hm, hl, hst]
theorem wpl_copy {P : Program} {w : World} {ops : Array Oper} {rest : List Oper} {o : Oper} {a : Act} {Q : Exit → Act → World → Prop} (hgd : o.guard = none) (d s : Operand) (t t' : TypeId)
    (ho : o.op = .call { callee := .builtin .copy, args := #[d, s], argTypes := #[t, t'] }) (v u : Value) (hd : a.eval d = v) (hs : a.eval s = u) {v' : Value} {w' : World}
    (hr : (Builtin.copy_ #[t, t'] o.type #[v, u]).run P w = .ok v' w') (h : wpList P ops Q rest (a.put o.dst v') w') : wpList P ops Q (o :: rest) a w :=
  wpList_plain hgd fun K hK => by
    unfold Oper.wp
    simp [execOp, ho, resolve, invoke, builtin, hd, hs, hr, Result.andThen]
    exact hK _ _ h
theorem step_copy {P : Program} {ops : Array Oper} {o : Oper} {a : Act} {w : World} {K : Act → World → Prop} {Q : Exit → Act → World → Prop} {E : Prop} (hgd : o.guard = none) (d s : Operand) (t t' : TypeId)
    (ho : o.op = .call { callee := .builtin .copy, args := #[d, s], argTypes := #[t, t'] }) (v u : Value) (hd : a.eval d = v) (hs : a.eval s = u) {v' : Value} {w' : World}
    (hr : (Builtin.copy_ #[t, t'] o.type #[v, u]).run P w = .ok v' w') (h : K (a.put o.dst v') w') :
    if Region.wanted o (yielded ops a.tmps) = true then Oper.wp P o a w K Q else E := by
  have hw : Region.wanted o (yielded ops a.tmps) = true := by simp [Region.wanted, hgd]
  rw [if_pos hw]
  unfold Oper.wp
  simp [execOp, ho, resolve, invoke, builtin, hd, hs, hr, Result.andThen]
  exact h
/-- a row that has room is a row of one element more -/
theorem row_more {B : Nat} {e : TypeId} {sz g n c : Nat} {w : World} {xs : List Value} (h : w.ownsRow B e sz (.slice (some ⟨g, 0, none⟩) n c) n xs) (hm : n + 1 ≤ c) : ∃ ys : List Value, ys.length = sz ∧ w.ownsRow B e sz (.slice (some ⟨g, 0, none⟩) (n + 1) c) (n + 1) (xs ++ ys) := by
  have hl := h.1
  rcases h.2 with ⟨e1, _⟩ | ⟨g', cap, cur, e1, e2, e3, e4, e5, e6, e7⟩
  · cases e1
  · injection e1 with x1 x2 x3
    injection x1 with x1
    injection x1 with x1 _
    subst x1; subst x3
    have m1 : (n + 1) * sz = n * sz + sz := by rw [Nat.add_mul, Nat.one_mul]
    have m2 : (n + 1) * sz ≤ c * sz := Nat.mul_le_mul_right _ hm
    have hcl : cur.toList.length = c * sz := by rw [Array.length_toList, e6]
    refine ⟨(cur.toList.drop (n * sz)).take sz, by rw [List.length_take, List.length_drop, hcl]; omega, ?_, Or.inr ⟨g, c, cur, rfl, e2, e3, hm, e5, e6, ?_⟩⟩
    · rw [List.length_append, hl, List.length_take, List.length_drop, hcl]; omega
    · rw [← e7, m1, List.take_add]
theorem row_isSome {B : Nat} {e : TypeId} {sz g n c m : Nat} {w : World} {xs : List Value} (h : w.ownsRow B e sz (.slice (some ⟨g, 0, none⟩) n c) m xs) (j : Nat) (hj : j < xs.length) : (w.cell? ⟨g, j, none⟩).isSome = true := by
  obtain rfl := (row_cap h).1
  rw [h.cellAt j (by rw [← h.1]; exact hj), List.getElem?_eq_getElem hj]; rfl
theorem drew_setCells (b : Nat) : ∀ (vs : List Value) (o : Nat) (w : World), (w.setCells b o vs).drew = w.drew.setCells b o vs
  | [], _, _ => rfl
  | v :: r, o, w => by rw [World.setCells, World.setCells, drew_setCells b r]; rfl
/-- an element laid in between -/
theorem splice_eq (X Y : List Value) (ys : List Value) (q n : Nat) (hX : X.length = n * 2) (hq : q ≤ n) (hY : Y.length = 2) (hy : ys.length = 2) :
    ((((X ++ ys).take ((q + 1) * 2) ++ X.drop (q * 2) ++ (X ++ ys).drop ((q + 1) * 2 + (X.drop (q * 2)).length)).take (q * 2)) ++ Y ++ (((X ++ ys).take ((q + 1) * 2) ++ X.drop (q * 2) ++ (X ++ ys).drop ((q + 1) * 2 + (X.drop (q * 2)).length)).drop (q * 2 + Y.length))) = X.take (q * 2) ++ Y ++ X.drop (q * 2) := by
  have hd : (X ++ ys).drop ((q + 1) * 2 + (X.drop (q * 2)).length) = [] := List.drop_eq_nil_of_le (by rw [List.length_append, List.length_drop, hX, hy]; omega)
  rw [hd, List.append_nil, hY]
  have ht : ((X ++ ys).take ((q + 1) * 2)).length = (q + 1) * 2 := by rw [List.length_take, List.length_append, hX, hy]; omega
  rw [List.take_append_of_le_length (by rw [ht]; omega), List.take_take, Nat.min_eq_left (by omega), List.take_append_of_le_length (by rw [hX]; omega), List.drop_append, ht]
  have h1 : ((X ++ ys).take ((q + 1) * 2)).drop (q * 2 + 2) = [] := List.drop_eq_nil_of_le (by rw [ht]; omega)
  rw [h1, show q * 2 + 2 - (q + 1) * 2 = 0 by omega, List.drop_zero]
  simp
theorem enx_mid (l : List En) (x : En) (q : Nat) : (l.flatMap enx).take (q * 2) ++ enx x ++ (l.flatMap enx).drop (q * 2) = (l.take q ++ x :: l.drop q).flatMap enx := by
  have e1 : (l.flatMap enx).take (q * 2) = (l.take q).flatMap enx := by
    induction l generalizing q with
    | nil => simp
    | cons y r ih =>
      cases q with
      | zero => simp
      | succ q =>
        rw [List.flatMap_cons, List.take_succ_cons, List.flatMap_cons, show (q + 1) * 2 = (enx y).length + q * 2 by simp [enx]; omega, List.take_length_add_append, ih]
  have e2 : (l.flatMap enx).drop (q * 2) = (l.drop q).flatMap enx := by
    clear e1
    induction l generalizing q with
    | nil => simp
    | cons y r ih =>
      cases q with
      | zero => simp
      | succ q =>
        rw [List.flatMap_cons, List.drop_succ_cons, show (q + 1) * 2 = (enx y).length + q * 2 by simp [enx]; omega, List.drop_length_add_append, ih]
  rw [e1, e2, List.flatMap_append, List.flatMap_cons, List.append_assoc]
/-- what Insert hands back -/
def InsPost (B : Nat) (l : List En) (v0 : Value) (w : World) (e : Ending) (w' : World) : Prop :=
  ∃ v, e = .returned v ∧ ERow B l v w' ∧ Below B w w' ∧ (∀ k, k < w.heap.size → some k ≠ v0.ownBlock → w'.heap[k]? = w.heap[k]?) ∧ w.heap.size ≤ w'.heap.size ∧ ∀ g, v.ownBlock = some g → v0.ownBlock = some g ∨ w.heap.size ≤ g
set_option maxHeartbeats 4000000 in
set_option maxRecDepth 100000 in
/-- there is room: in place -/
theorem insRoom_any (B g n c q vb : Nat) (l : List En) (x : En) (w : World) (h : ERow B l (.slice (some ⟨g, 0, none⟩) n c) w) (hq : q < l.length) (hn : l.length ≤ 1048576) (hroom : n + 1 ≤ c) (hv : Bk w vb 47 #[.string (str x.name), .int .i64 x.node]) (hne : vb ≠ g) :
    Calls Try.prog 58 #[.slice (some ⟨g, 0, none⟩) n c, .int .i64 q, .slice (some ⟨vb, 0, none⟩) 1 1] w (InsPost B (l.take q ++ x :: l.drop q) (.slice (some ⟨g, 0, none⟩) n c) w) := by
  obtain ⟨i0, hi0, hz0, hz1, hz2⟩ := info_parts info_en
  have hsz : (Try.prog.info? 47).map (·.size) = some 2 := by rw [hi0]; simp [hz1]
  unfold ERow at h
  obtain rfl : n = l.length := (row_cap h).1
  obtain ⟨ys, hyl, hR1⟩ := row_more h hroom
  have hcm := (row_cap h).2.2.1
  unfold maxLen at hcm
  have hXl := enx_len l
  have hBg := (World.ownsRow.lt h g rfl).1
  have hone : ∀ v ∈ (l.flatMap enx).drop (q * 2), v.oneCell' = true := fun v hv => enx_one l v (List.mem_of_mem_drop hv)
  have hxone : ∀ v ∈ enx x, v.oneCell' = true := fun v hv => enx_one [x] v (by simpa using hv)
  have hfin := enx_mid l x q
  have hspl := splice_eq (l.flatMap enx) (enx x) ys q l.length hXl (by omega) rfl hyl
  have hcellX : ∀ j, j < l.length * 2 → w.cell? ⟨g, j, none⟩ = (l.flatMap enx)[j]? := fun j hj => h.cellAt j hj
  have hgl : w.heap.size > g := (World.ownsRow.lt h g rfl).2
  have hfz : ∀ (W : World) j, (∀ y, W.frozen? y = w.frozen? y) → W.frozen? ⟨g, j, none⟩ = false := fun W j hW => by rw [hW]; exact h.frozenAt j
  have hX2 : ((l.flatMap enx).drop (q * 2)).length = (l.length - q) * 2 := by rw [List.length_drop, hXl]; omega
  obtain ⟨X, hX⟩ : ∃ X, X = l.flatMap enx := ⟨_, rfl⟩
  rw [← hX] at hXl hone hfin hspl hcellX hX2 hR1
  have hshb : w.shape? g = some (47, c * 2) := by
    rcases h.2 with ⟨e1, _⟩ | ⟨g', cap, cur, e1, e2, e3, e4, e5, e6, e7⟩
    · cases e1
    · injection e1 with x1 x2 x3
      injection x1 with x1
      injection x1 with x1 _
      subst x1; subst x3
      unfold World.shape?
      rw [e3]; simp only; rw [e6]
  have hsha : w.shape? vb = some (47, 2) := by
    have := hv
    unfold Bk at this
    unfold World.shape?
    rw [this]; rfl
  have hov : ∀ lb cb, (callFunc 59 #[.slice (some ⟨vb, 0, none⟩) 1 1, .slice (some ⟨g, (q + 1) * 2, none⟩) lb cb]).run Try.prog w = .ok (.value (.bool false)) w := fun lb cb => by
    rw [run_callFunc_extern Try.func59 (by kernel_rfl) (by kernel_rfl) (by kernel_rfl) (e := Extern.SlicesOverlaps.overlaps #[23, 23] #[4]) (by kernel_rfl),
      Lib.run_overlaps_apart w 23 4 47 Try.underlying23 2 (fun w => by kernel_rfl) ⟨vb, 0, none⟩ ⟨g, (q + 1) * 2, none⟩ 1 1 lb cb hne 47 47 2 (c * 2) hsha hshb (by omega) (hv.free 0) (hv.free 2)]
    rfl
  have hw1 : IntKind.i64.wrap ((q : Int) + 1) = (q : Int) + 1 := by rw [IntKind.wrap_i64]; omega
  obtain ⟨CS, hCS⟩ : ∃ CS, CS = X.drop (q * 2) := ⟨_, rfl⟩
  rw [← hCS] at hone hX2
  have hcsat : ∀ j v, CS[j]? = some v → w.cell? ⟨g, q * 2 + j, none⟩ = some v := fun j v hj => by
    rw [hCS, List.getElem?_drop] at hj
    have hjl : q * 2 + j < X.length := (List.getElem?_eq_some_iff.1 hj).1
    rw [hcellX _ (by omega)]; exact hj
  have hsome : ∀ j, j < (l.length + 1) * 2 → (w.cell? ⟨g, j, none⟩).isSome = true := fun j hj => row_isSome hR1 j (by rw [hR1.1]; exact hj)
  have hcp1 : ∀ ty dl dc sl sc, dl = l.length - q → sl = l.length + 1 - q → (Builtin.copy_ #[23, 23] ty #[.slice (some ⟨g, (q + 1) * 2, none⟩) dl dc, .slice (some ⟨g, q * 2, none⟩) sl sc]).run Try.prog w.drew = .ok (goInt ((l.length - q : Nat) : Int)) (w.drew.setCells g ((q + 1) * 2) CS) := fun ty dl dc sl sc h1 h2 =>
    run_copy2 w.drew _ _ ty 47 g ((q + 1) * 2) dl dc ⟨g, q * 2, none⟩ sl sc CS (l.length - q) Try.underlying23 hsz (by simp only [Nat.min_def]; split <;> omega) hX2
      (fun j v hj => by
        have hadd : (⟨g, q * 2, none⟩ : Addr).add j = ⟨g, q * 2 + j, none⟩ := by unfold Addr.add; split <;> simp_all
        rw [hadd]; exact hcsat j v hj)
      (fun j hj => hsome _ (by omega)) (fun j hj => hfz w.drew _ (fun _ => rfl)) hone
  have hRA : w.drew.ownsRow B 47 2 (.slice (some ⟨g, 0, none⟩) (l.length + 1) c) (l.length + 1) (X ++ ys) := hR1
  have hRB := row_setCells CS ((q + 1) * 2) _ _ hRA (by rw [hR1.1, hX2]; omega)
  obtain ⟨W1, hW1⟩ : ∃ W1, W1 = w.drew.setCells g ((q + 1) * 2) CS := ⟨_, rfl⟩
  rw [← hW1] at hRB
  have hcp2 : ∀ ty dl dc, dl = l.length + 1 - q → (Builtin.copy_ #[23, 23] ty #[.slice (some ⟨g, q * 2, none⟩) dl dc, .slice (some ⟨vb, 0, none⟩) 1 1]).run Try.prog W1 = .ok (goInt 1) (W1.setCells g (q * 2) (enx x)) := fun ty dl dc h1 =>
    run_copy2 W1 _ _ ty 47 g (q * 2) dl dc ⟨vb, 0, none⟩ 1 1 (enx x) 1 Try.underlying23 hsz (by simp only [Nat.min_def]; split <;> omega) rfl
      (fun j v hj => by
        have hadd : (⟨vb, 0, none⟩ : Addr).add j = ⟨vb, j, none⟩ := by unfold Addr.add; split <;> simp_all
        rw [hadd, hW1, World.cell?_setCells_out g _ _ _ _ (fun h _ => absurd h hne)]
        have : w.cell? ⟨vb, j, none⟩ = (enx x)[j]? := by rw [hv.at j]; simp [enx]
        exact this.trans hj)
      (fun j hj => row_isSome hRB _ (by rw [hRB.1]; simp [enx] at hj; omega))
      (fun j hj => by rw [hRB.frozenAt]) hxone
  have hRC := row_setCells (enx x) (q * 2) _ _ hRB (by rw [hRB.1]; simp [enx]; omega)
  rw [hCS] at hRC
  rw [hspl, hfin] at hRC
  have hFIN : Hid (ERow B (l.take q ++ x :: l.drop q) (.slice (some ⟨g, 0, none⟩) (l.length + 1) c) (W1.setCells g (q * 2) (enx x)) ∧ Below B w (W1.setCells g (q * 2) (enx x)) ∧ (∀ k, k ≠ g → (W1.setCells g (q * 2) (enx x)).heap[k]? = w.heap[k]?) ∧ w.heap.size = (W1.setCells g (q * 2) (enx x)).heap.size) := by
    refine ⟨?_, ?_, ?_, ?_⟩
    · unfold ERow
      rw [show (l.take q ++ x :: l.drop q).length = l.length + 1 by rw [List.length_append, List.length_take, List.length_cons, List.length_drop]; omega]
      exact hRC
    · rw [hW1]; exact below_setCells' hBg _ _ _ _ (below_setCells' hBg _ _ _ _ (Below.refl _ _).drew)
    · intro k hk; rw [hW1, setCells_other _ _ _ _ _ hk, setCells_other _ _ _ _ _ hk]; rfl
    · rw [hW1, size_setCells', size_setCells']; rfl
  rw [← hW1] at hcp1
  have hz1' : ¬ ((q : Int) = (l.length : Int)) := by omega
  have hz2' : ((q : Int) == (l.length : Int)) = false := by rw [beq_eq_false_iff_ne]; omega
  have hz3' : decide ((c : Int) < (l.length : Int) + 1) = false := decide_eq_false (by omega)
  have hz4' : ¬ ((c : Int) < (l.length : Int) + 1) := by omega
  have hb1 : (0 : Int) ≤ (q : Int) + 1 := by omega
  have hin : q ≤ l.length := by omega
  have htn : ((q : Int) + 1).toNat = q + 1 := by omega
  have hb2 : ¬ (c = q + 1) := by omega
  have hb3 : (q : Int) ≤ (l.length : Int) + 1 := by omega
  have hb5 : (q : Int) + 1 ≤ (l.length : Int) + 1 := by omega
  have hb4 : ¬ (c = q) := by omega
  have hHW : Hid (W1 = w.drew.setCells g ((q + 1) * 2) CS) := hW1
  clear hRA hRB hRC hW1 hcellX hone hxone hspl hfin hR1 hfz hsome hcsat hX2 hXl hX hCS h hyl hshb hsha
  generalize l.length = N at *
  go_enter Try.func58, Try.ntmps58
  go_wp2_with (simp only [hov])
  go_region_law (refine step_copy rfl (.tmp 73) (.tmp 76) 23 23 rfl _ _ (by simp [Act.eval, Act.put]) (by simp [Act.eval, Act.put]) (hcp1 _ _ _ _ _ (by omega) (by omega)) ?_)
  go_wp2_with (at_builtin; refine wpl_copy rfl (.tmp 80) (.tmp 81) 23 23 rfl _ _ rfl rfl (hcp2 _ _ _ (by omega)) ?_)
  go_ret
  exact ⟨_, rfl, hFIN.out.1, hFIN.out.2.1, fun k _ hk => hFIN.out.2.2.1 k (fun e => hk (by rw [e]; rfl)), Nat.le_of_eq hFIN.out.2.2.2, fun k hk => Or.inl hk⟩
end Go.Proofs.Ytmjcdjekakaigaa.Fs
