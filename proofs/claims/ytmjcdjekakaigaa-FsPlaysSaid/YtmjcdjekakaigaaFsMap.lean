/- fs.staying: the map of the nodes that a directory names. -/
import Derived.Test.YtmjcdjekakaigaaFsW2
import Derived.Maps.Own
import Derived.Maps.OwnOps
import Derived.Maps.OwnSet
import Derived.Maps.Views
namespace Go.Proofs.Ytmjcdjekakaigaa.Fs
open Go.RowKit Go.Maps Go.WideMaps
set_option linter.unusedVariables false

abbrev D1 := DataW Unit
def kl (i : Int) : Lit := .int .i64 i
def z0 : D1 := .lit (.int .i64 0)
def accOf (l : List En) : List Lit := l.map fun e => kl e.node
theorem key_ok (acc : List En) : ∀ x ∈ accOf acc, WideAt.IsKeyLit x := by
  intro x hx
  obtain ⟨e, _, rfl⟩ := List.mem_map.1 hx
  trivial
theorem has_acc (l : List En) (i : Int) : Maps.has (Maps.setOf z0 (accOf l)) (kl i) = l.any fun e => decide (e.node = i) := by
  rw [Maps.has_setOf z0 (kl i) _ (key_ok l)]
  unfold accOf
  rw [List.any_map]
  congr 1
  funext e
  simp only [Function.comp]
  by_cases h : e.node = i
  · subst h; rw [decide_eq_true rfl]; exact WideAt.sameKey_self (by trivial)
  · rw [decide_eq_false h]
    exact Maps.sameKey_ne (fun e2 => h (by injection e2))
theorem addKeys : ∀ (xs L : List Lit), (∀ x ∈ xs, WideAt.IsKeyLit x) → (∀ x ∈ L, WideAt.IsKeyLit x) → L.Nodup → (xs.foldl Maps.addKey L).Nodup ∧ ∀ y, y ∈ xs.foldl Maps.addKey L ↔ y ∈ L ∨ y ∈ xs
  | [], L, _, _, h => ⟨h, fun y => by simp⟩
  | x :: r, L, hk, hkL, h => by
    rw [List.foldl_cons]
    by_cases hx : L.any (fun y => y.sameKey x) = true
    · have e : Maps.addKey L x = L := by unfold Maps.addKey; rw [if_pos hx]
      rw [e]
      obtain ⟨h1, h2⟩ := addKeys r L (fun y hy => hk y (by simp [hy])) hkL h
      refine ⟨h1, fun y => ?_⟩
      rw [h2]
      obtain ⟨z, hz, e2⟩ := List.any_eq_true.1 hx
      have : z = x := WideAt.sameKey_eq e2
      subst this
      simp only [List.mem_cons]
      constructor
      · rintro (a | a)
        · exact Or.inl a
        · exact Or.inr (Or.inr a)
      · rintro (a | a | a)
        · exact Or.inl a
        · rw [a]; exact Or.inl hz
        · exact Or.inr a
    · have e : Maps.addKey L x = L ++ [x] := by unfold Maps.addKey; rw [if_neg hx]
      rw [e]
      have hxL : x ∉ L := fun hm => hx (List.any_eq_true.2 ⟨x, hm, WideAt.sameKey_self (hk x (by simp))⟩)
      obtain ⟨h1, h2⟩ := addKeys r (L ++ [x]) (fun y hy => hk y (by simp [hy])) (fun y hy => by
        rcases List.mem_append.1 hy with hy | hy
        · exact hkL y hy
        · rw [List.mem_singleton.1 hy]; exact hk x (by simp)) (by
        rw [List.nodup_append]
        refine ⟨h, by simp, fun a ha b hb => ?_⟩
        rw [List.mem_singleton.1 hb]; intro e3; rw [e3] at ha; exact hxL ha)
      refine ⟨h1, fun y => ?_⟩
      rw [h2]
      simp only [List.mem_append, List.mem_cons, List.not_mem_nil, or_false]
      constructor
      · rintro ((a | a) | a)
        · exact Or.inl a
        · exact Or.inr (Or.inl a)
        · exact Or.inr (Or.inr a)
      · rintro (a | a | a)
        · exact Or.inl (Or.inl a)
        · exact Or.inl (Or.inr a)
        · exact Or.inr a
theorem nodup_sub {α : Type} (l m : List α) (hd : l.Nodup) (hs : ∀ x ∈ l, x ∈ m) : l.length ≤ m.length := by
  classical
  induction l generalizing m with
  | nil => simp
  | cons x r ih =>
    have hx := hs x (by simp)
    have h1 := ih (m.erase x) (List.nodup_cons.1 hd).2 (fun y hy => by
      have hne : y ≠ x := fun e => by rw [e] at hy; exact (List.nodup_cons.1 hd).1 hy
      exact (List.mem_erase_of_ne hne).2 (hs y (by simp [hy])))
    rw [List.length_erase_of_mem hx] at h1
    have : 0 < m.length := List.length_pos_of_mem hx
    simp; omega
theorem size_acc {n : Nat} {d s : List En} (hd : ∀ x ∈ d ++ s, 0 ≤ x.node ∧ x.node < (n : Int)) :
    (Maps.size (Maps.setOf z0 (accOf (d ++ s))) < n) ↔ (List.range n).all (fun i => named d s (i : Int)) = false := by
  rw [Maps.size_setOf z0 _ (key_ok _)]
  obtain ⟨h1, h2⟩ := addKeys (accOf (d ++ s)) [] (key_ok _) (by simp) List.nodup_nil
  have hn : ∀ i : Nat, named d s (i : Int) = true ↔ kl (i : Int) ∈ (accOf (d ++ s)).foldl Maps.addKey [] := by
    intro i
    rw [h2]
    unfold named accOf
    rw [← List.any_append, List.any_eq_true]
    simp only [List.not_mem_nil, false_or, List.mem_map]
    constructor
    · rintro ⟨x, hx, e⟩
      exact ⟨x, hx, by have e : x.node = (i : Int) := by simpa using e
                       rw [e]⟩
    · rintro ⟨x, hx, e⟩
      refine ⟨x, hx, ?_⟩
      unfold kl at e
      injection e with _ e
      simpa using e
  generalize hF : (accOf (d ++ s)).foldl Maps.addKey [] = F at *
  have hall : ∀ y ∈ F, ∃ i : Nat, i < n ∧ y = kl (i : Int) := fun y hy => by
    rcases (h2 y).1 hy with h | h
    · simp at h
    · obtain ⟨x, hx, rfl⟩ := List.mem_map.1 h
      have := hd x hx
      exact ⟨x.node.toNat, by omega, by rw [Int.toNat_of_nonneg this.1]⟩
  have hR : ((List.range n).map fun i : Nat => kl (i : Int)).Nodup := by
    unfold List.Nodup
    rw [List.pairwise_map]
    refine List.Pairwise.imp ?_ (List.nodup_range (n := n))
    intro a b hne e
    unfold kl at e
    injection e with _ e
    omega
  have hle : F.length ≤ n := by
    have := nodup_sub F ((List.range n).map fun i : Nat => kl (i : Int)) h1 (fun y hy => by
      obtain ⟨i, hi, rfl⟩ := hall y hy
      exact List.mem_map.2 ⟨i, List.mem_range.2 hi, rfl⟩)
    simpa using this
  constructor
  · intro hlt
    rw [← Bool.not_eq_true, List.all_eq_true]
    intro ha
    have := nodup_sub ((List.range n).map fun i : Nat => kl (i : Int)) F hR (fun y hy => by
      obtain ⟨i, hi, rfl⟩ := List.mem_map.1 hy
      exact (hn i).1 (ha i hi))
    simp at this
    omega
  · intro ha
    rw [List.all_eq_false] at ha
    obtain ⟨i, hi, hi2⟩ := ha
    have hi := List.mem_range.1 hi
    have hni : kl (i : Int) ∉ F := fun hm => hi2 ((hn i).2 hm)
    have := nodup_sub (kl (i : Int) :: F) ((List.range n).map fun i : Nat => kl (i : Int)) (List.nodup_cons.2 ⟨hni, h1⟩) (fun y hy => by
      rcases List.mem_cons.1 hy with e | hy
      · rw [e]; exact List.mem_map.2 ⟨i, List.mem_range.2 hi, rfl⟩
      · obtain ⟨j, hj, rfl⟩ := hall y hy
        exact List.mem_map.2 ⟨j, List.mem_range.2 hj, rfl⟩)
    simp at this
    omega

theorem law_int : Keyed Try.prog 3 := int_keyed Try.underlying3
theorem zero_int (w : World) : (zeroValue 3).run Try.prog w = .ok (.int .i64 0) w := by kernel_rfl
theorem wf_int (i : Int) (h1 : -9223372036854775808 ≤ i) (h2 : i ≤ 9223372036854775807) : (Lit.int .i64 i).wf = true := by
  simp [Lit.wf, IntKind.min, IntKind.max, IntKind.signed, IntKind.bits]; omega
theorem key_int (i : Int) (h1 : -9223372036854775808 ≤ i) (h2 : i ≤ 9223372036854775807) : keyOf Try.prog 3 (.int .i64 i) = some (kl i) := keyOf_int_mk (P := Try.prog) Try.underlying3 (wf_int i h1 h2)
theorem elem_int (i : Int) (h1 : -9223372036854775808 ≤ i) (h2 : i ≤ 9223372036854775807) : plainElem (H := Unit) Try.prog 3 (.int .i64 i) = some (.lit (.int .i64 i), []) := plainElem_int Try.underlying3 (wf_int i h1 h2)
/-- a map of numbers to numbers of one's own -/
abbrev MapI (w : World) (b n : Nat) (D : D1) : Prop := w.ownsMap Try.prog 3 (plainElem (H := Unit) Try.prog 3) b n D
theorem map_keep {w w' : World} {b n : Nat} {D : D1} (h : MapI w b n D) (e : w'.heap[b]? = w.heap[b]?) : MapI w' b n D := by
  obtain ⟨es, clock, hb, F, hs, hD⟩ := h
  exact ⟨es, clock, e.trans hb, F, hs, hD⟩
def StayPost (d s : List En) (w : World) (e : Ending) (w' : World) : Prop :=
  ∃ M, e = .returned (.map (some M)) ∧ w.heap.size ≤ M ∧ MapI w' M (d.length + s.length) (Maps.setOf z0 (accOf (d ++ s))) ∧ Below w.heap.size w w'
theorem acc_snoc (l : List En) (k : Nat) (h : k < l.length) : Maps.setOf z0 (accOf (l.take (k + 1))) = (Maps.setOf z0 (accOf (l.take k))).put (kl (l.getD k nulE).node) z0 := by
  rw [take_snoc l nulE k h]
  unfold accOf
  rw [List.map_append]
  exact Maps.setOf_snoc z0 _ _
theorem acc_snoc2 (d l : List En) (k : Nat) (h : k < l.length) : Maps.setOf z0 (accOf (d ++ l.take (k + 1))) = (Maps.setOf z0 (accOf (d ++ l.take k))).put (kl (l.getD k nulE).node) z0 := by
  rw [take_snoc l nulE k h, ← List.append_assoc]
  unfold accOf
  rw [List.map_append (l₂ := [l.getD k nulE])]
  exact Maps.setOf_snoc z0 _ _
set_option maxHeartbeats 2000000 in
set_option maxRecDepth 100000 in
theorem staying_any (p : At) (f : T) (w : World) (hd : f.dir.length ≤ 1048576) (hs : f.syn.length ≤ 1048576) (h : Fss w w.heap.size p f) :
    Calls Try.prog 34 #[fsV p f] w (StayPost f.dir f.syn w) := by
  have hal : Below w.heap.size w (w.alloc (.cells #[.slice p.an f.nodes.length p.cn, .slice p.ad f.dir.length p.cd, .slice p.ay f.syn.length p.cy] 25)) := (Below.refl _ _).alloc (Nat.le_refl _) _
  have hT : Bk (w.alloc (.cells #[.slice p.an f.nodes.length p.cn, .slice p.ad f.dir.length p.cd, .slice p.ay f.syn.length p.cy] 25)) w.heap.size 25 #[.slice p.an f.nodes.length p.cn, .slice p.ad f.dir.length p.cd, .slice p.ay f.syn.length p.cy] := bk_new _ _ _
  obtain ⟨b0, b1, b2⟩ := hT.three
  have HD := Lib.hid (h.next hal).dir
  have HS := Lib.hid (h.next hal).syn
  have HKD := Lib.hid (fun k (hk : k < f.dir.length) => (h.dok _ (getD_mem f.dir nulE k hk)).2)
  have HKS := Lib.hid (fun k (hk : k < f.syn.length) => (h.sok _ (getD_mem f.syn nulE k hk)).2)
  have HS1 := Lib.hid (fun k hk => acc_snoc f.dir k hk)
  have HS2 := Lib.hid (fun k hk => acc_snoc2 f.dir f.syn k hk)
  have HF1 := Lib.hid (show Maps.setOf z0 (accOf (f.dir.take f.dir.length)) = Maps.setOf z0 (accOf (f.dir ++ f.syn.take 0)) by simp)
  have HF2 := Lib.hid (show Maps.setOf z0 (accOf (f.dir ++ f.syn.take f.syn.length)) = Maps.setOf z0 (accOf (f.dir ++ f.syn)) by simp)
  have HF0 := Lib.hid (show (.map [] : D1) = Maps.setOf z0 (accOf (f.dir.take 0)) by simp [accOf, Maps.setOf])
  have hmm : ∀ (w : World), (Instr.makeMap 66 none).run Try.prog w = .ok (.map (some w.heap.size)) (w.alloc (.map #[] 0)) := fun _ => by kernel_rfl
  have HT := Lib.hid hT
  have hs0 := hal.size
  obtain ⟨an, cn, ad, cd, ay, cy⟩ := p
  obtain ⟨nodes, dir, syn⟩ := f
  simp only at *
  unfold fsV
  simp only
  clear h hT
  go_enter Try.func34, Try.ntmps34
  go_wp2_with fail
  obtain ⟨M, hM⟩ : ∃ M, M = (w.alloc (.cells #[.slice an nodes.length cn, .slice ad dir.length cd, .slice ay syn.length cy] 25)).heap.size := ⟨_, rfl⟩
  obtain ⟨W1, hW1⟩ : ∃ W1, W1 = (w.alloc (.cells #[.slice an nodes.length cn, .slice ad dir.length cd, .slice ay syn.length cy] 25)).alloc (.map #[] 0) := ⟨_, rfl⟩
  have hm0 : MapI W1 M 0 (Maps.setOf z0 (accOf (dir.take 0))) := by rw [hW1, hM, ← HF0.out]; exact World.ownsMap_made _ _ _ _
  have hwM : w.heap.size < M := by rw [hM]; exact HT.out.lt
  have hMW : M < W1.heap.size := by rw [hW1, hM]; simp
  have hb1 : Below M (w.alloc (.cells #[.slice an nodes.length cn, .slice ad dir.length cd, .slice ay syn.length cy] 25)) W1 := by rw [hW1, hM]; exact (Below.refl _ _).alloc (Nat.le_refl _) _
  have HB := Lib.hid (HT.out.below hb1 hwM)
  have HDM := Lib.hid (show Ens W1 M ad dir from (by have := HD.out; rw [← hM] at this; exact this.below enAt_firm hb1))
  have HSM := Lib.hid (show Ens W1 M ay syn from (by have := HS.out; rw [← hM] at this; exact this.below enAt_firm hb1))
  have HALL := Lib.hid (show Below w.heap.size w W1 from hal.trans (hb1.mono (by omega)))
  have hM2 : w.heap.size + 1 = M := by rw [hM]; simp
  rw [← hW1, hM2]
  have hM' : (w.alloc (.cells #[.slice an nodes.length cn, .slice ad dir.length cd, .slice ay syn.length cy] 25)).heap.size = M := hM.symm
  clear hM2 hW1 hM hb1 b0 b1 b2 hal hM' hs0
  go_loopw [12] (fun i wr => ∃ k : Nat, k ≤ dir.length ∧ i = .int .i64 k ∧ Below M W1 wr ∧ Hid (MapI wr M k (Maps.setOf z0 (accOf (dir.take k))))) (fun i _ => dir.length - (intOf i).toNat)
  case atStart => exact ⟨0, by omega, rfl, Below.refl _ _, Lib.hid hm0⟩
  case round =>
    obtain ⟨k, hk, rfl, hbw, HM⟩ := hrel
    by_cases hlt : k < dir.length
    · obtain ⟨bb, off, rfl, hbb, hcc⟩ := HDM.out (fun e => by rw [e] at hlt; simp at hlt)
      obtain ⟨k0, k1⟩ := hcc k hlt
      have c0 := (hbw.cell (p := ⟨bb, off + k * 2, none⟩) hbb).trans k0
      have c1 := (hbw.cell (p := ⟨bb, off + k * 2 + 1, none⟩) hbb).trans k1
      have hkI : (k : Int) < (dir.length : Int) := by omega
      obtain ⟨g1, g2⟩ := HKD.out k hlt
      have HST := Lib.hid (HS1.out k hlt)
      generalize (dir.getD k nulE).node = z at *
      generalize str (dir.getD k nulE).name = X at *
      have HKEY := Lib.hid (key_int z g1 g2)
      have HMA := Lib.hid (show MapI (wr.alloc (.cells #[.string X, .int .i64 z] 47)) M k _ from World.ownsMap.alloc HM.out _)
      have hbA : Below M W1 (wr.alloc (.cells #[.string X, .int .i64 z] 47)) := hbw.alloc (Nat.le_trans (Nat.le_of_lt hMW) hbw.size) _
      clear k0 k1 hcc
      go_wp2_with (at_mapUpdate; refine wpList_mapUpdate_own _ rfl (.tmp 16) (.tmp 18) (.const (.int .i64 0)) 66 rfl 3 3 law_int Try.underlying66 _ M k _ rfl HMA.out (by unfold maxLen; omega) _ _ _ rfl rfl HKEY.out _ [] (elem_int 0 (by omega) (by omega)) ?_)
      intro w5 hown5 hgrow5
      have hbw5 : Below M W1 w5 := hbA.grown hgrow5 (Nat.le_trans (Nat.le_of_lt hMW) hbA.size) (fun j hj => by cases hj; exact Nat.le_refl _)
      have HOWN5 := Lib.hid (show MapI w5 M (k + 1) (Maps.setOf z0 (accOf (dir.take (k + 1)))) by rw [HST.out]; exact hown5)
      clear hown5 hgrow5
      go_wp2_with fail
      exact ⟨⟨k + 1, by omega, by go_num, hbw5, HOWN5⟩, by simp [intOf]; omega⟩
    · obtain rfl : k = dir.length := by omega
      have HM1 := Lib.hid (show MapI wr M dir.length (Maps.setOf z0 (accOf (dir ++ syn.take 0))) by rw [← HF1.out]; exact HM.out)
      obtain ⟨d0, d1, d2⟩ := (HB.out.below hbw hwM).three
      clear HM
      go_wp2_with fail
      rename World => wk
      go_loopw [23] (fun i wr => ∃ k : Nat, k ≤ syn.length ∧ i = .int .i64 k ∧ Below M W1 wr ∧ Hid (MapI wr M (dir.length + k) (Maps.setOf z0 (accOf (dir ++ syn.take k))))) (fun i _ => syn.length - (intOf i).toNat)
      case atStart => exact ⟨0, by omega, rfl, hbw, HM1⟩
      case round =>
        clear d0 d1 d2
        obtain ⟨k, hk, rfl, hbw, HM⟩ := hrel
        by_cases hlt : k < syn.length
        · obtain ⟨bb, off, rfl, hbb, hcc⟩ := HSM.out (fun e => by rw [e] at hlt; simp at hlt)
          obtain ⟨k0, k1⟩ := hcc k hlt
          have c0 := (hbw.cell (p := ⟨bb, off + k * 2, none⟩) hbb).trans k0
          have c1 := (hbw.cell (p := ⟨bb, off + k * 2 + 1, none⟩) hbb).trans k1
          have hkI : (k : Int) < (syn.length : Int) := by omega
          obtain ⟨g1, g2⟩ := HKS.out k hlt
          have HST := Lib.hid (HS2.out k hlt)
          generalize (syn.getD k nulE).node = z at *
          generalize str (syn.getD k nulE).name = X at *
          have HKEY := Lib.hid (key_int z g1 g2)
          have HMA := Lib.hid (show MapI (wr.alloc (.cells #[.string X, .int .i64 z] 47)) M (dir.length + k) _ from World.ownsMap.alloc HM.out _)
          have hbA : Below M W1 (wr.alloc (.cells #[.string X, .int .i64 z] 47)) := hbw.alloc (Nat.le_trans (Nat.le_of_lt hMW) hbw.size) _
          clear k0 k1 hcc
          go_wp2_with (at_mapUpdate; refine wpList_mapUpdate_own _ rfl (.tmp 27) (.tmp 29) (.const (.int .i64 0)) 66 rfl 3 3 law_int Try.underlying66 _ M (dir.length + k) _ rfl HMA.out (by unfold maxLen; omega) _ _ _ rfl rfl HKEY.out _ [] (elem_int 0 (by omega) (by omega)) ?_)
          intro w5 hown5 hgrow5
          have hbw5 : Below M W1 w5 := hbA.grown hgrow5 (Nat.le_trans (Nat.le_of_lt hMW) hbA.size) (fun j hj => by cases hj; exact Nat.le_refl _)
          have HOWN5 := Lib.hid (show MapI w5 M (dir.length + (k + 1)) (Maps.setOf z0 (accOf (dir ++ syn.take (k + 1)))) by rw [HST.out, ← Nat.add_assoc]; exact hown5)
          clear hown5 hgrow5
          go_wp2_with fail
          exact ⟨⟨k + 1, by omega, by go_num, hbw5, HOWN5⟩, by simp [intOf]; omega⟩
        · obtain rfl : k = syn.length := by omega
          have HM2 := Lib.hid (show MapI wr M (dir.length + syn.length) (Maps.setOf z0 (accOf (dir ++ syn))) by rw [← HF2.out]; exact HM.out)
          go_wp2_with fail
          go_ret
          exact ⟨M, rfl, Nat.le_of_lt hwM, HM2.out, HALL.out.trans (hbw.mono (Nat.le_of_lt hwM))⟩
end Go.Proofs.Ytmjcdjekakaigaa.Fs
