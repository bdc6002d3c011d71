/- The walk of slices.Insert (one entry): no room; at the end; whatever comes. -/
import Derived.Test.YtmjcdjekakaigaaFsIns
namespace Go.Proofs.Ytmjcdjekakaigaa.Fs
open Go.RowKit
set_option linter.unusedVariables false

theorem zero_len (z : Array Value) (k : Nat) : (Builtin.zeroCells z k).size = k * z.size := by simp [Builtin.zeroCells]
theorem splice_grow (X Y Z : List Value) (q n : Nat) (hX : X.length = n * 2) (hq : q ≤ n) (hY : Y.length = 2) (hZ : Z.length = (n + 1 - q) * 2) :
    (((X.take (q * 2) ++ Z).take (q * 2) ++ Y ++ (X.take (q * 2) ++ Z).drop (q * 2 + Y.length)).take ((q + 1) * 2)) ++ X.drop (q * 2) ++ ((X.take (q * 2) ++ Z).take (q * 2) ++ Y ++ (X.take (q * 2) ++ Z).drop (q * 2 + Y.length)).drop ((q + 1) * 2 + (X.drop (q * 2)).length) = X.take (q * 2) ++ Y ++ X.drop (q * 2) := by
  have ht : (X.take (q * 2)).length = q * 2 := by rw [List.length_take]; omega
  have e1 : (X.take (q * 2) ++ Z).take (q * 2) = X.take (q * 2) := by
    rw [List.take_append_of_le_length (by omega), List.take_of_length_le (by omega)]
  rw [e1]
  have hl : (X.take (q * 2) ++ Y ++ (X.take (q * 2) ++ Z).drop (q * 2 + Y.length)).length = (n + 1) * 2 := by
    rw [List.length_append, List.length_append, ht, hY, List.length_drop, List.length_append, ht, hZ]; omega
  have e2 : (X.take (q * 2) ++ Y ++ (X.take (q * 2) ++ Z).drop (q * 2 + Y.length)).drop ((q + 1) * 2 + (X.drop (q * 2)).length) = [] := List.drop_eq_nil_of_le (by rw [hl, List.length_drop, hX]; omega)
  rw [e2, List.append_nil, List.take_append_of_le_length (by rw [List.length_append, ht, hY]; omega), List.take_of_length_le (by rw [List.length_append, ht, hY]; omega)]
set_option maxHeartbeats 4000000 in
set_option maxRecDepth 100000 in
/-- there is none: a new row -/
theorem insGrow_any (B g n c q vb : Nat) (l : List En) (x : En) (w : World) (h : ERow B l (.slice (some ⟨g, 0, none⟩) n c) w) (hB : B ≤ w.heap.size) (hq : q < l.length) (hn : l.length ≤ 1048576) (hroom : c < n + 1) (hv : Bk w vb 47 #[.string (str x.name), .int .i64 x.node]) (hne : vb ≠ g) :
    Calls Try.prog 58 #[.slice (some ⟨g, 0, none⟩) n c, .int .i64 q, .slice (some ⟨vb, 0, none⟩) 1 1] w (InsPost B (l.take q ++ x :: l.drop q) (.slice (some ⟨g, 0, none⟩) n c) w) := by
  obtain ⟨i0, hi0, hz0, hz1, hz2⟩ := info_parts info_en
  have hsz : (Try.prog.info? 47).map (·.size) = some 2 := by rw [hi0]; simp [hz1]
  unfold ERow at h
  obtain rfl : n = l.length := (row_cap h).1
  have hcm := (row_cap h).2.2.1
  have hlc := (row_cap h).2.1
  obtain rfl : c = l.length := by omega
  unfold maxLen at hcm
  have hXl := enx_len l
  have hone : ∀ v ∈ (l.flatMap enx).drop (q * 2), v.oneCell' = true := fun v hv => enx_one l v (List.mem_of_mem_drop hv)
  have hxone : ∀ v ∈ enx x, v.oneCell' = true := fun v hv => enx_one [x] v (by simpa using hv)
  have hfin := enx_mid l x q
  have hcellX : ∀ j, j < l.length * 2 → w.cell? ⟨g, j, none⟩ = (l.flatMap enx)[j]? := fun j hj => h.cellAt j hj
  have hgl : g < w.heap.size := (World.ownsRow.lt h g rfl).2
  have hX2 : ((l.flatMap enx).drop (q * 2)).length = (l.length - q) * 2 := by rw [List.length_drop, hXl]; omega
  obtain ⟨X, hX⟩ : ∃ X, X = l.flatMap enx := ⟨_, rfl⟩
  rw [← hX] at hXl hone hfin hcellX hX2
  have hcell : ∀ j v, X[j]? = some v → w.cell? ⟨g, j, none⟩ = some v := fun j v hj => by
    have hjl : j < X.length := (List.getElem?_eq_some_iff.1 hj).1
    rw [hcellX _ (by omega)]; exact hj
  have hold : (Builtin.firstCells i0.size q (.slice (some ⟨g, 0, none⟩) q l.length)).run Try.prog w.drew = .ok (X.take (q * 2)).toArray w.drew := by
    rw [hz1]
    exact run_firstCells_some (w := w.drew) 2 q ⟨g, 0, none⟩ q l.length (X.take (q * 2)) (by rw [List.length_take]; omega) (fun j v hj => by
      have hadd : (⟨g, 0, none⟩ : Addr).add j = ⟨g, j, none⟩ := by unfold Addr.add; split <;> simp_all
      rw [hadd]
      rw [List.getElem?_take] at hj
      split at hj
      · exact hcell j v hj
      · cases hj)
  have hkk : (l.length : Int) + 1 - (q : Int) = ((l.length + 1 - q : Nat) : Int) := by omega
  have hik : q + (l.length + 1 - q) = l.length + 1 := by omega
  obtain ⟨G, hG⟩ : ∃ G, G = grownCap w (l.length + 1) l.length 47 := ⟨_, rfl⟩
  obtain ⟨ZZ, hZZ⟩ : ∃ ZZ, ZZ = (Builtin.zeroCells (Value.agg #[.string ByteArray.empty, .int .i64 0]).cells (l.length + 1 - q)).toList := ⟨_, rfl⟩
  obtain ⟨ROW, hROW⟩ : ∃ ROW : Array Value, ROW = (X.take (q * 2)).toArray ++ Builtin.zeroCells (Value.agg #[.string ByteArray.empty, .int .i64 0]).cells (l.length + 1 - q) ++ Builtin.zeroCells (Value.agg #[.string ByteArray.empty, .int .i64 0]).cells (G - (l.length + 1)) := ⟨_, rfl⟩
  obtain ⟨W1, hW1⟩ : ∃ W1, W1 = w.drew.alloc (.cells ROW 47) := ⟨_, rfl⟩
  have hrz : ∀ ty, (Builtin.append_ #[23, 3] ty #[.slice (some ⟨g, 0, none⟩) q l.length, .int .i64 ((l.length : Int) + 1 - (q : Int))]).run Try.prog w = .ok (.slice (some ⟨w.heap.size, 0, none⟩) (l.length + 1) G) W1 := fun ty => by
    have h := Lib.run_append_grow_zeros w 23 3 ty 47 i0 _ .i64 .i64 Try.underlying23 Try.underlying3 hi0 hz0 (some ⟨g, 0, none⟩) q l.length (X.take (q * 2)) hold (l.length + 1 - q) (by omega) (by omega) (by omega) (by omega) (by rw [hz2]; omega) (by rw [hz2, hik]; exact growslice_fits (by omega) (by omega))
    rw [hik, ← hG, ← hROW, ← hW1] at h
    rw [hkk]
    exact h
  have hGn : l.length + 1 ≤ G := by rw [hG]; exact grownCap_ge w _ _ _
  have hGm : G ≤ maxLen := by rw [hG]; exact grownCap_le_maxLen w _ _ _ (by unfold maxLen; omega)
  have hzl : ZZ.length = (l.length + 1 - q) * 2 := by rw [hZZ, Array.length_toList, zero_len]; rfl
  have hz0' : (Builtin.zeroCells (Value.agg #[.string ByteArray.empty, .int .i64 0]).cells (l.length + 1 - q)).toList.length = (l.length + 1 - q) * 2 := by rw [Array.length_toList, zero_len]; rfl
  have htl : (X.take (q * 2)).length = q * 2 := by rw [List.length_take]; omega
  have hRA : W1.ownsRow w.heap.size 47 2 (.slice (some ⟨w.heap.size, 0, none⟩) (l.length + 1) G) (l.length + 1) (X.take (q * 2) ++ ZZ) := by
    refine ⟨by rw [List.length_append, htl, hzl]; omega, Or.inr ⟨w.heap.size, G, ROW, rfl, Nat.le_refl _, ?_, hGn, hGm, ?_, ?_⟩⟩
    · rw [hW1]; exact heap_alloc_new w.drew _
    · rw [hROW, Array.size_append, Array.size_append, zero_len, zero_len, List.size_toArray, htl]
      show q * 2 + (l.length + 1 - q) * 2 + (G - (l.length + 1)) * 2 = G * 2
      omega
    · rw [hROW, hZZ]
      simp only [Array.toList_append]
      have hl2 : (X.take (q * 2) ++ (Builtin.zeroCells (Value.agg #[.string ByteArray.empty, .int .i64 0]).cells (l.length + 1 - q)).toList).length = (l.length + 1) * 2 := by rw [List.length_append, hz0', htl]; omega
      rw [List.take_append_of_le_length (Nat.le_of_eq hl2.symm), List.take_of_length_le (Nat.le_of_eq hl2)]
  have hOld : ∀ b j, b < w.heap.size → W1.cell? ⟨b, j, none⟩ = w.cell? ⟨b, j, none⟩ := fun b j hb => by
    rw [hW1]; exact World.cell?_alloc_past (w := w.drew) _ b j hb
  have hcpA : ∀ ty dl dc, dl = l.length + 1 - q → (Builtin.copy_ #[23, 23] ty #[.slice (some ⟨w.heap.size, q * 2, none⟩) dl dc, .slice (some ⟨vb, 0, none⟩) 1 1]).run Try.prog W1 = .ok (goInt 1) (W1.setCells w.heap.size (q * 2) (enx x)) := fun ty dl dc h1 =>
    run_copy2 W1 _ _ ty 47 w.heap.size (q * 2) dl dc ⟨vb, 0, none⟩ 1 1 (enx x) 1 Try.underlying23 hsz (by simp only [Nat.min_def]; split <;> omega) rfl
      (fun j v hj => by
        have hadd : (⟨vb, 0, none⟩ : Addr).add j = ⟨vb, j, none⟩ := by unfold Addr.add; split <;> simp_all
        rw [hadd, hOld vb j hv.lt]
        have : w.cell? ⟨vb, j, none⟩ = (enx x)[j]? := by rw [hv.at j]; simp [enx]
        exact this.trans hj)
      (fun j hj => row_isSome hRA _ (by rw [hRA.1]; simp [enx] at hj; omega))
      (fun j hj => by rw [hRA.frozenAt]) hxone
  have hRB := row_setCells (enx x) (q * 2) _ _ hRA (by rw [hRA.1]; simp [enx]; omega)
  obtain ⟨W2, hW2⟩ : ∃ W2, W2 = W1.setCells w.heap.size (q * 2) (enx x) := ⟨_, rfl⟩
  rw [← hW2] at hRB hcpA
  obtain ⟨CS, hCS⟩ : ∃ CS, CS = X.drop (q * 2) := ⟨_, rfl⟩
  rw [← hCS] at hone hX2
  have hgN : g ≠ w.heap.size := by omega
  have hcpB : ∀ ty dl dc sl sc, dl = l.length - q → sl = l.length - q → (Builtin.copy_ #[23, 23] ty #[.slice (some ⟨w.heap.size, (q + 1) * 2, none⟩) dl dc, .slice (some ⟨g, q * 2, none⟩) sl sc]).run Try.prog W2.drew = .ok (goInt ((l.length - q : Nat) : Int)) (W2.drew.setCells w.heap.size ((q + 1) * 2) CS) := fun ty dl dc sl sc h1 h2 =>
    run_copy2 W2.drew _ _ ty 47 w.heap.size ((q + 1) * 2) dl dc ⟨g, q * 2, none⟩ sl sc CS (l.length - q) Try.underlying23 hsz (by simp only [Nat.min_def]; split <;> omega) hX2
      (fun j v hj => by
        have hadd : (⟨g, q * 2, none⟩ : Addr).add j = ⟨g, q * 2 + j, none⟩ := by unfold Addr.add; split <;> simp_all
        rw [hadd]
        show W2.cell? _ = _
        rw [hW2, World.cell?_setCells_out _ _ _ _ _ (fun h _ => absurd h hgN), hOld g _ hgl]
        rw [hCS, List.getElem?_drop] at hj
        exact hcell _ v hj)
      (fun j hj => row_isSome (w := W2.drew) hRB _ (by rw [hRB.1]; omega))
      (fun j hj => by show W2.frozen? _ = _; rw [hRB.frozenAt]) hone
  have hRB' : W2.drew.ownsRow w.heap.size 47 2 (.slice (some ⟨w.heap.size, 0, none⟩) (l.length + 1) G) (l.length + 1) _ := hRB
  have hRC := row_setCells CS ((q + 1) * 2) _ _ hRB' (by rw [hRB.1]; omega)
  rw [hCS] at hRC
  rw [splice_grow X (enx x) ZZ q l.length hXl (by omega) rfl hzl, hfin, ← hCS] at hRC
  have hFIN : Hid (ERow B (l.take q ++ x :: l.drop q) (.slice (some ⟨w.heap.size, 0, none⟩) (l.length + 1) G) (W2.drew.setCells w.heap.size ((q + 1) * 2) CS) ∧ Below B w (W2.drew.setCells w.heap.size ((q + 1) * 2) CS) ∧ (∀ k, k < w.heap.size → (W2.drew.setCells w.heap.size ((q + 1) * 2) CS).heap[k]? = w.heap[k]?) ∧ w.heap.size ≤ (W2.drew.setCells w.heap.size ((q + 1) * 2) CS).heap.size) := by
    have hbl : Below w.heap.size w (W2.drew.setCells w.heap.size ((q + 1) * 2) CS) := by
      rw [hW2, hW1]
      exact below_setCells' (Nat.le_refl _) _ _ _ _ ((below_setCells' (Nat.le_refl _) _ _ _ _ ((Below.refl w.heap.size w).drew.alloc (Nat.le_refl _) _)).drew)
    refine ⟨?_, hbl.mono hB, fun k hk => hbl.block k hk, hbl.size⟩
    refine ERow.weak (B := w.heap.size) ?_ hB
    unfold ERow
    rw [show (l.take q ++ x :: l.drop q).length = l.length + 1 by rw [List.length_append, List.length_take, List.length_cons, List.length_drop]; omega]
    exact hRC
  have hz1' : ¬ ((q : Int) = (l.length : Int)) := by omega
  have hz2' : ((q : Int) == (l.length : Int)) = false := by rw [beq_eq_false_iff_ne]; omega
  have hz3' : decide ((l.length : Int) < (l.length : Int) + 1) = true := decide_eq_true (by omega)
  have hw1 : IntKind.i64.wrap ((q : Int) + 1) = (q : Int) + 1 := by rw [IntKind.wrap_i64]; omega
  have hb1 : (0 : Int) ≤ (q : Int) + 1 := by omega
  have hin : q ≤ l.length := by omega
  have htn : ((q : Int) + 1).toNat = q + 1 := by omega
  have hb2 : ¬ (G = q + 1) := by omega
  have hb6 : ¬ (G = q) := by omega
  have hb3 : (q : Int) ≤ (l.length : Int) + 1 := by omega
  have hb5 : (q : Int) + 1 ≤ (l.length : Int) + 1 := by omega
  have hb4 : ¬ (l.length = q) := by omega
  unfold maxLen at hGm
  clear hRA hRB hRC hRB' hW1 hW2 hcellX hcell hone hxone hfin hold hOld hX2 hXl hX hCS h hG hROW hZZ hzl htl hik hkk hz0'
  generalize l.length = N at *
  go_enter Try.func58, Try.ntmps58
  go_wp2_with (first
    | (at_builtin; refine Lib.wpList_append_run _ rfl _ _ _ _ rfl _ _ rfl rfl _ _ (hrz _) ?_)
    | (at_builtin; refine wpl_copy rfl (.tmp 43) (.tmp 44) 23 23 rfl _ _ rfl rfl (hcpA _ _ _ (by omega)) ?_))
  go_region_law (refine step_copy rfl (.tmp 50) (.tmp 53) 23 23 rfl _ _ (by simp [Act.eval, Act.put]) (by simp [Act.eval, Act.put]) (hcpB _ _ _ _ _ (by omega) (by omega)) ?_)
  go_wp2_with fail
  go_ret
  exact ⟨_, rfl, hFIN.out.1, hFIN.out.2.1, fun k hk _ => hFIN.out.2.2.1 k hk, hFIN.out.2.2.2, fun k hk => Or.inr (by injection hk with hk; rw [← hk]; exact Nat.le_refl _)⟩
theorem row_end {B g n c : Nat} {e : TypeId} {sz : Nat} {w : World} {xs ys zs : List Value} (h : w.ownsRow B e sz (.slice (some ⟨g, 0, none⟩) (n + 1) c) (n + 1) (xs ++ ys)) (hx : xs.length = n * sz) (hy : ys.length = sz) (hz : zs.length = sz) :
    (w.setCells g (n * sz) zs).ownsRow B e sz (.slice (some ⟨g, 0, none⟩) (n + 1) c) (n + 1) (xs ++ zs) := by
  have hl := h.1
  rw [List.length_append] at hl
  have h1 := row_setCells zs (n * sz) _ _ h (by rw [List.length_append]; omega)
  have e1 : (xs ++ ys).take (n * sz) ++ zs ++ (xs ++ ys).drop (n * sz + zs.length) = xs ++ zs := by
    rw [List.take_append_of_le_length (by omega), List.take_of_length_le (by omega), List.drop_eq_nil_of_le (by rw [List.length_append]; omega), List.append_nil]
  rwa [e1] at h1
theorem wpl_append_room {P : Program} {w : World} {ops : Array Oper} {rest : List Oper} {o : Oper} {a : Act} {Q : Exit → Act → World → Prop}
    (hg : o.guard = none) (s x : Operand) (t : TypeId) (hop : o.op = Op.call { callee := Callee.builtin Builtin.append, args := #[s, x], argTypes := #[t, t] })
    (e : TypeId) (i : TypeInfo) (size : Nat) (h1 : P.underlying t = some (.slice e)) (h2 : P.info? e = some i) (h4 : i.size = size)
    (b off n cap : Nat) (hs : a.eval s = .slice (some ⟨b, off, none⟩) n cap)
    (ad : Addr) (m c : Nat) (news : List Value) (hx : a.eval x = .slice (some ad) m c) (hn : news.length = m * size) (hc : ∀ j u, news[j]? = some u → w.cell? (ad.add j) = some u) (h1c : ∀ u ∈ news, u.oneCell' = true)
    (hroom : n + m ≤ cap) (hspare : ∀ j, j < news.length → (w.cell? ⟨b, off + n * size + j, none⟩).isSome = true ∧ w.frozen? ⟨b, off + n * size + j, none⟩ = false)
    (h : wpList P ops Q rest (a.put o.dst (.slice (some ⟨b, off, none⟩) (n + m) cap)) (w.setCells b (off + n * size) news)) : wpList P ops Q (o :: rest) a w :=
  wpList_plain hg fun K hK => by
    have := step_append_room (ops := ops) (K := K) (Q := Q) (E := True) hg s x t hop e i size h1 h2 h4 b off n cap hs ad m c news hx hn hc h1c hroom hspare (hK _ _ h)
    rwa [if_pos (by simp [Region.wanted, hg])] at this
theorem en_at {w : World} {vb : Nat} {x : En} (hv : Bk w vb 47 #[.string (str x.name), .int .i64 x.node]) : ∀ j u, (enx x)[j]? = some u → w.cell? ((⟨vb, 0, none⟩ : Addr).add j) = some u := fun j u hj => by
  have hadd : (⟨vb, 0, none⟩ : Addr).add j = ⟨vb, j, none⟩ := by unfold Addr.add; split <;> simp_all
  rw [hadd]
  have : w.cell? ⟨vb, j, none⟩ = (enx x)[j]? := by rw [hv.at j]; simp [enx]
  exact this.trans hj
set_option maxHeartbeats 4000000 in
set_option maxRecDepth 100000 in
theorem insEnd_any (B vb : Nat) (a : Option Addr) (n c : Nat) (l : List En) (x : En) (w : World) (h : ERow B l (.slice a n c) w) (hB : B ≤ w.heap.size) (hn : l.length ≤ 1048576) (hv : Bk w vb 47 #[.string (str x.name), .int .i64 x.node]) :
    Calls Try.prog 58 #[.slice a n c, .int .i64 l.length, .slice (some ⟨vb, 0, none⟩) 1 1] w (InsPost B (l ++ [x]) (.slice a n c) w) := by
  obtain ⟨i0, hi0, hz0, hz1, hz2⟩ := info_parts info_en
  have hxone : ∀ v ∈ enx x, v.oneCell' = true := fun v hv => enx_one [x] v (by simpa using hv)
  obtain ⟨e0, hnc, hcm, hnil, hg0⟩ := row_cap h
  subst e0
  have hXl := enx_len l
  have HAT := Lib.hid (en_at hv)
  unfold maxLen at hcm
  have hfl : (l ++ [x]).flatMap enx = l.flatMap enx ++ enx x := by simp
  by_cases hroom : l.length + 1 ≤ c
  · cases a with
    | none => have := hnil rfl; omega
    | some ad =>
      obtain ⟨g, rfl⟩ := hg0 ad rfl
      have hBg := (World.ownsRow.lt h g rfl).1
      obtain ⟨ys, hyl, hR⟩ := row_more h hroom
      have hE := row_end hR (by rw [hXl]) hyl (show (enx x).length = 2 from rfl)
      have hsp : ∀ j, j < (enx x).length → (w.cell? ⟨g, 0 + l.length * 2 + j, none⟩).isSome = true ∧ w.frozen? ⟨g, 0 + l.length * 2 + j, none⟩ = false := fun j hj => by
        simp [enx] at hj
        exact ⟨row_isSome hR _ (by rw [hR.1]; omega), hR.frozenAt _⟩
      have HSP := Lib.hid hsp
      have HFIN := Lib.hid (show ERow B (l ++ [x]) (.slice (some ⟨g, 0, none⟩) (l.length + 1) c) (w.setCells g (l.length * 2) (enx x)) ∧ Below B w (w.setCells g (l.length * 2) (enx x)) ∧ (∀ k, k ≠ g → (w.setCells g (l.length * 2) (enx x)).heap[k]? = w.heap[k]?) ∧ w.heap.size = (w.setCells g (l.length * 2) (enx x)).heap.size by
        refine ⟨?_, below_setCells' hBg _ _ _ _ (Below.refl _ _), fun k hk => setCells_other _ _ _ _ _ hk, by rw [size_setCells']⟩
        unfold ERow
        rw [hfl, List.length_append]
        exact hE)
      have hlen : (enx x).length = 1 * 2 := rfl
      clear hE hR hyl h hfl hsp hXl hBg
      generalize l.length = N at *
      go_enter Try.func58, Try.ntmps58
      go_wp2_with (at_builtin; refine wpl_append_room rfl (.tmp 23) (.tmp 24) 23 rfl 47 i0 2 Try.underlying23 hi0 hz1 g 0 N c rfl ⟨vb, 0, none⟩ 1 1 (enx x) rfl hlen HAT.out hxone hroom HSP.out ?_)
      go_ret
      exact ⟨_, rfl, HFIN.out.1, HFIN.out.2.1, fun k _ hk => HFIN.out.2.2.1 k (fun e => hk (by rw [e]; rfl)), Nat.le_of_eq HFIN.out.2.2.2, fun k hk => Or.inl hk⟩
  · have hon : ∀ b, a = some b → ∀ j u, (l.flatMap enx)[j]? = some u → w.cell? (b.add j) = some u := fun b hb j u hj => by
      obtain ⟨g, rfl⟩ := hg0 b hb
      subst hb
      have hjl : j < (l.flatMap enx).length := (List.getElem?_eq_some_iff.1 hj).1
      have hadd : (⟨g, 0, none⟩ : Addr).add j = ⟨g, j, none⟩ := by unfold Addr.add; split <;> simp_all
      rw [hadd, h.cellAt j (by omega)]; exact hj
    have hno : a = none → l.length = 0 ∧ c = 0 := fun e => by have := hnil e; omega
    have HON := Lib.hid hon
    have HNO := Lib.hid hno
    have hfull : c < l.length + 1 := by omega
    have hb1 : l.length + 1 ≤ maxLen := by unfold maxLen; omega
    have hb2 : (l.length + 1) * 24 ≤ 140737488355328 := by omega
    have hlen : (enx x).length = 1 * 2 := rfl
    have HFL := Lib.hid hfl
    have hzs : (Value.agg #[.string ByteArray.empty, .int .i64 0]).cells.size = 2 := rfl
    have HXL := Lib.hid (show (l.flatMap enx).length = l.length * 2 from hXl)
    have HL2 := Lib.hid (show (l ++ [x]).length = l.length + 1 by simp)
    have hb1' : l.length + 1 ≤ 9223372036854775807 := by omega
    clear h hfl hon hno hnil hXl hg0
    generalize l.length = N at *
    cases a with
    | none =>
      obtain ⟨rfl, rfl⟩ := HNO.out rfl
      go_enter Try.func58, Try.ntmps58
      go_wp2_with (at_builtin; refine wpList_append_grows _ rfl (.tmp 23) (.tmp 24) 23 rfl 47 i0 _ 2 24 Try.underlying23 hi0 hz0 hz1 hz2 rfl (by decide) none 0 0 (l.flatMap enx) rfl HNO.out HXL.out HON.out ⟨vb, 0, none⟩ 1 1 (enx x) rfl hlen HAT.out hxone hfull hb1 hb2 ?_)
      intro v' w' hr hgr
      have HR := Lib.hid (show ERow w.heap.size (l ++ [x]) v' w' by unfold ERow; rw [HFL.out, HL2.out]; exact hr)
      clear hr
      go_wp2_with fail
      go_ret
      exact ⟨_, rfl, HR.out.weak hB, (Below.refl B w).grown hgr hB (fun k hk => by cases hk), fun k hk _ => hgr.block k hk (by simp), hgr.size, fun k hk => Or.inr (HR.out.lt k hk).1⟩
    | some ad =>
      go_enter Try.func58, Try.ntmps58
      go_wp2_with (at_builtin; refine wpList_append_grows _ rfl (.tmp 23) (.tmp 24) 23 rfl 47 i0 _ 2 24 Try.underlying23 hi0 hz0 hz1 hz2 rfl (by decide) (some ad) N c (l.flatMap enx) rfl HNO.out HXL.out HON.out ⟨vb, 0, none⟩ 1 1 (enx x) rfl hlen HAT.out hxone hfull hb1 hb2 ?_)
      intro v' w' hr hgr
      have HR := Lib.hid (show ERow w.heap.size (l ++ [x]) v' w' by unfold ERow; rw [HFL.out, HL2.out]; exact hr)
      clear hr
      go_wp2_with fail
      go_ret
      exact ⟨_, rfl, HR.out.weak hB, (Below.refl B w).grown hgr hB (fun k hk => by cases hk), fun k hk _ => hgr.block k hk (by simp), hgr.size, fun k hk => Or.inr (HR.out.lt k hk).1⟩
theorem insert_any (B vb q : Nat) (v : Value) (l : List En) (x : En) (w : World) (h : ERow B l v w) (hB : B ≤ w.heap.size) (hq : q ≤ l.length) (hn : l.length ≤ 1048576) (hv : Bk w vb 47 #[.string (str x.name), .int .i64 x.node]) (hne : v.ownBlock ≠ some vb) :
    Calls Try.prog 58 #[v, .int .i64 q, .slice (some ⟨vb, 0, none⟩) 1 1] w (InsPost B (l.take q ++ x :: l.drop q) v w) := by
  obtain ⟨a, c, rfl, -, hc⟩ := erow_ens h
  by_cases e : q = l.length
  · subst e
    rw [List.take_length, List.drop_length]
    exact insEnd_any B vb a l.length c l x w h hB hn hv
  · cases a with
    | none => have := hc.2.2 rfl; have := hc.1; omega
    | some ad =>
      obtain ⟨g, rfl⟩ := (row_cap h).2.2.2.2 ad rfl
      have hne' : vb ≠ g := fun e => hne (by rw [e]; rfl)
      by_cases hroom : l.length + 1 ≤ c
      · exact insRoom_any B g l.length c q vb l x w h (by omega) hn hroom hv hne'
      · exact insGrow_any B g l.length c q vb l x w h hB (by omega) hn (by omega) hv hne'
end Go.Proofs.Ytmjcdjekakaigaa.Fs
