/- Plain: what an op leaves is a file system again. -/
import Derived.Test.YtmjcdjekakaigaaFsP2
import Derived.Test.YtmjcdjekakaigaaFsSwP
import Derived.Test.YtmjcdjekakaigaaFsTu
namespace Go.Proofs.Ytmjcdjekakaigaa.Fs
set_option linter.unusedVariables false

theorem fewer_all {d s : List En} : ∀ (k : Nat), (∀ i, i < k → named d s (i : Int) = true) → fewer d s k = k
  | 0, _ => rfl
  | k + 1, h => by rw [fewer_yes (h k (by omega)), fewer_all k (fun i hi => h i (by omega))]
theorem keepN_all {d s : List En} (l : List Nd) : ∀ (k : Nat), k ≤ l.length → (∀ i, i < k → named d s (i : Int) = true) → keepN d s l k = l.take k
  | 0, _, _ => by simp [keepN]
  | k + 1, hk, h => by rw [keepN_yes l (h k (by omega)), keepN_all l k (by omega) (fun i hi => h i (by omega)), take_snoc l nulN k (by omega)]
theorem moved_all {n : Nat} {d s l : List En} (hl : ∀ e ∈ l, 0 ≤ e.node ∧ e.node < (n : Int)) (h : ∀ i, i < n → named d s (i : Int) = true) : moved d s l = l := by
  unfold moved
  conv => rhs; rw [← List.map_id l]
  apply List.map_congr_left
  intro e he
  have hr := hl e he
  have : fewer d s e.node.toNat = e.node.toNat := fewer_all _ (fun i hi => h i (by omega))
  rw [this, Int.toNat_of_nonneg hr.1]; rfl
theorem swept_id {f : T} (h : Ok f) : swept f = f := by
  unfold swept
  rw [keepN_all f.nodes _ (Nat.le_refl _) h.all, List.take_length, moved_all h.dir.rg h.all, moved_all h.syn.rg h.all]
theorem node_inj {n : Nat} {l : List En} (h : DirOk n l) {x y : En} (hx : x ∈ l) (hy : y ∈ l) (e : x.node = y.node) : x = y := by
  obtain ⟨i, hi, rfl⟩ := List.mem_iff_getElem.1 hx
  obtain ⟨j, hj, rfl⟩ := List.mem_iff_getElem.1 hy
  by_cases hij : i = j
  · subst hij; rfl
  · exfalso
    rcases Nat.lt_or_gt_of_ne hij with h1 | h1
    · exact (List.pairwise_iff_getElem.1 h.df) i j hi hj h1 e
    · exact (List.pairwise_iff_getElem.1 h.df) j i hj hi h1 e.symm
theorem name_inj {n : Nat} {l : List En} (h : DirOk n l) {x y : En} (hx : x ∈ l) (hy : y ∈ l) (e : x.name = y.name) : x = y := by
  obtain ⟨i, hi, rfl⟩ := List.mem_iff_getElem.1 hx
  obtain ⟨j, hj, rfl⟩ := List.mem_iff_getElem.1 hy
  by_cases hij : i = j
  · subst hij; rfl
  · exfalso
    rcases Nat.lt_or_gt_of_ne hij with h1 | h1
    · have := (List.pairwise_iff_getElem.1 h.up) i j hi hj h1
      rw [e] at this; exact lt_irr _ this
    · have := (List.pairwise_iff_getElem.1 h.up) j i hj hi h1
      rw [e] at this; exact lt_irr _ this
theorem DirOk.mono {n m : Nat} {l : List En} (h : DirOk n l) (hm : n ≤ m) : DirOk m l := ⟨h.nm, h.up, fun x hx => by have := h.rg x hx; omega, h.df⟩
theorem DirOk.filter {n : Nat} {l : List En} (h : DirOk n l) (p : En → Bool) : DirOk n (l.filter p) :=
  ⟨fun x hx => h.nm x ((List.mem_filter.1 hx).1), h.up.filter _, fun x hx => h.rg x ((List.mem_filter.1 hx).1), h.df.filter _⟩
theorem DirOk.less {n : Nat} {l : List En} (h : DirOk n l) (s : S) : DirOk n (Fs.less l s) := h.filter _
theorem DirOk.withE {n : Nat} {l : List En} (h : DirOk n l) {x : En} (hn : isName x.name = true) (hr : 0 ≤ x.node ∧ x.node < (n : Int)) (hd : ∀ y ∈ l, y.name ≠ x.name → y.node ≠ x.node) : DirOk n (Fs.withE l x) where
  nm := fun y hy => by
    rcases mem_withE.1 hy with e | ⟨hy, _⟩
    · rw [e]; exact hn
    · exact h.nm y hy
  up := withE_up h.up x
  rg := fun y hy => by
    rcases mem_withE.1 hy with e | ⟨hy, _⟩
    · rw [e]; exact hr
    · exact h.rg y hy
  df := by
    unfold Fs.withE
    have hne : ∀ y ∈ l, (y.name < x.name ∨ x.name < y.name) → y.node ≠ x.node := fun y hy hh => hd y hy (ne_lt.1 hh)
    rw [List.pairwise_append]
    refine ⟨h.df.filter _, ?_, ?_⟩
    · rw [List.pairwise_cons]
      refine ⟨fun y hy => ?_, h.df.filter _⟩
      have := List.mem_filter.1 hy
      exact (hne y this.1 (Or.inr (by simpa using this.2))).symm
    · intro a ha b hb
      have h1 := List.mem_filter.1 ha
      have h1b : a.name < x.name := by simpa using h1.2
      rcases List.mem_cons.1 hb with e | hb
      · rw [e]; exact hne a h1.1 (Or.inl h1b)
      · have h2 := List.mem_filter.1 hb
        have h2b : x.name < b.name := by simpa using h2.2
        intro e
        have := node_inj h h1.1 h2.1 e
        rw [this] at h1b
        exact lt_irr _ (List.lt_trans h1b h2b)
/-- how many are named ahead rises just at those that are -/
theorem fewer_mono {d s : List En} {i j : Nat} (hij : i ≤ j) : fewer d s i ≤ fewer d s j := by
  induction j with
  | zero => have : i = 0 := by omega
            subst this; exact Nat.le_refl _
  | succ j ih =>
    by_cases e : i = j + 1
    · subst e; exact Nat.le_refl _
    · have := ih (by omega)
      cases h : named d s (j : Int) with
      | true => rw [fewer_yes h]; omega
      | false => rw [fewer_no h]; omega
theorem fewer_lt {d s : List En} {i j : Nat} (hij : i < j) (h : named d s (i : Int) = true) : fewer d s i < fewer d s j := by
  have h1 := fewer_yes h
  have h2 := fewer_mono (d := d) (s := s) (show i + 1 ≤ j by omega)
  omega
theorem fewer_inj {d s : List En} {i j : Nat} (hi : named d s (i : Int) = true) (hj : named d s (j : Int) = true) (e : fewer d s i = fewer d s j) : i = j := by
  rcases Nat.lt_trichotomy i j with h | h | h
  · have := fewer_lt h hi; omega
  · exact h
  · have := fewer_lt h hj; omega
theorem fewer_onto {d s : List En} : ∀ (n i : Nat), i < fewer d s n → ∃ j, j < n ∧ named d s (j : Int) = true ∧ fewer d s j = i
  | 0, i, h => by simp [fewer] at h
  | n + 1, i, h => by
    cases hn : named d s (n : Int) with
    | true =>
      rw [fewer_yes hn] at h
      by_cases e : i = fewer d s n
      · exact ⟨n, by omega, hn, e.symm⟩
      · obtain ⟨j, h1, h2, h3⟩ := fewer_onto (d := d) (s := s) n i (by omega)
        exact ⟨j, by omega, h2, h3⟩
    | false =>
      rw [fewer_no hn] at h
      obtain ⟨j, h1, h2, h3⟩ := fewer_onto n i h
      exact ⟨j, by omega, h2, h3⟩
theorem moved_ok {n : Nat} {d s l : List En} (h : DirOk n l) (hl : l = d ∨ l = s) : DirOk (fewer d s n) (moved d s l) := by
  have hnat : ∀ e ∈ l, named d s ((e.node.toNat : Nat) : Int) = true ∧ e.node.toNat < n := fun e he => by
    have := h.rg e he
    refine ⟨?_, by omega⟩
    rw [Int.toNat_of_nonneg this.1]; exact named_in hl he
  refine ⟨?_, ?_, ?_, ?_⟩
  · intro x hx
    obtain ⟨e, he, rfl⟩ := List.mem_map.1 hx
    exact h.nm e he
  · unfold moved
    rw [List.pairwise_map]
    exact h.up
  · intro x hx
    obtain ⟨e, he, rfl⟩ := List.mem_map.1 hx
    have := hnat e he
    have := fewer_lt this.2 this.1
    simp only
    omega
  · unfold moved
    rw [List.pairwise_map]
    refine List.Pairwise.imp_of_mem ?_ h.df
    intro a b ha hb hne e
    simp only at e
    have h1 := h.rg a ha
    have h2 := h.rg b hb
    have := fewer_inj (hnat a ha).1 (hnat b hb).1 (by omega)
    omega
theorem named_mem {d s : List En} {i : Int} (h : named d s i = true) : ∃ e, (e ∈ d ∨ e ∈ s) ∧ e.node = i := by
  unfold named at h
  rw [Bool.or_eq_true, List.any_eq_true, List.any_eq_true] at h
  rcases h with ⟨e, he, e2⟩ | ⟨e, he, e2⟩
  · exact ⟨e, Or.inl he, by simpa using e2⟩
  · exact ⟨e, Or.inr he, by simpa using e2⟩
/-- a file system but for nodes that nobody names -/
structure Near (f : T) : Prop where
  len : f.nodes.length ≤ 24
  small : ∀ x ∈ f.nodes, x.live.length ≤ 65536 ∧ x.syn.length ≤ 65536
  dir : DirOk f.nodes.length f.dir
  syn : DirOk f.nodes.length f.syn
theorem Ok.near {f : T} (h : Ok f) : Near f := ⟨h.len, h.small, h.dir, h.syn⟩
theorem Near.rg {f : T} (h : Near f) : ∀ e, e ∈ f.dir ∨ e ∈ f.syn → 0 ≤ e.node ∧ e.node < (f.nodes.length : Int) := fun e he => he.elim (h.dir.rg e) (h.syn.rg e)
theorem swept_ok {f : T} (h : Near f) : Ok (swept f) := by
  have hl : (swept f).nodes.length = fewer f.dir f.syn f.nodes.length := keepN_len _ _ _ _
  refine ⟨?_, ?_, ?_, ?_, ?_⟩
  · rw [hl]; have := fewer_le f.dir f.syn f.nodes.length; have := h.len; omega
  · intro x hx
    unfold swept keepN at hx
    obtain ⟨i, hi, rfl⟩ := List.mem_map.1 hx
    exact h.small _ (getD_mem _ _ _ (List.mem_range.1 (List.mem_filter.1 hi).1))
  · rw [hl]; exact moved_ok h.dir (Or.inl rfl)
  · rw [hl]; exact moved_ok h.syn (Or.inr rfl)
  · intro i hi
    rw [hl] at hi
    obtain ⟨j, h1, h2, h3⟩ := fewer_onto _ _ hi
    obtain ⟨e, he, e2⟩ := named_mem h2
    have hm : (⟨e.name, (fewer f.dir f.syn e.node.toNat : Nat)⟩ : En).node = (i : Int) := by simp only [e2]; rw [Int.toNat_natCast, h3]
    unfold named
    rcases he with he | he
    · rw [(List.any_eq_true (l := (swept f).dir)).2 ⟨_, List.mem_map.2 ⟨e, he, rfl⟩, by simpa using hm⟩]; rfl
    · rw [(List.any_eq_true (l := (swept f).syn)).2 ⟨_, List.mem_map.2 ⟨e, he, rfl⟩, by simpa using hm⟩]; simp
theorem nodeOf_rg {n : Nat} {l : List En} (h : DirOk n l) {s : S} (hh : has l s = true) : 0 ≤ nodeOf l s ∧ nodeOf l s < (n : Int) := h.rg _ (nodeOf_mem h.up hh)
theorem set_small {l : List Nd} {i : Nat} {y : Nd} (h : ∀ x ∈ l, x.live.length ≤ 65536 ∧ x.syn.length ≤ 65536) (hy : y.live.length ≤ 65536 ∧ y.syn.length ≤ 65536) : ∀ x ∈ l.set i y, x.live.length ≤ 65536 ∧ x.syn.length ≤ 65536 := fun x hx => by
  rcases List.mem_or_eq_of_mem_set hx with hx | hx
  · exact h x hx
  · rw [hx]; exact hy
theorem getD_small {l : List Nd} (h : ∀ x ∈ l, x.live.length ≤ 65536 ∧ x.syn.length ≤ 65536) (i : Nat) : (l.getD i nulN).live.length ≤ 65536 ∧ (l.getD i nulN).syn.length ≤ 65536 := by
  by_cases hi : i < l.length
  · exact h _ (getD_mem l nulN i hi)
  · simp [List.getD, List.getElem?_eq_none (show l.length ≤ i by omega), nulN]
theorem wrote_ok {f : T} (h : Ok f) {n tx : S} (hn : isName n = true) (ht : tx.length ≤ 65536) (he : (wroteR f n tx).2 = 0) : Ok (wroteR f n tx).1 := by
  unfold wroteR at he ⊢
  by_cases hh : has f.dir n = true
  · rw [if_pos hh]
    exact ⟨by simp only [List.length_set]; exact h.len, set_small h.small ⟨ht, (getD_small h.small _).2⟩, by simp only [List.length_set]; exact h.dir, by simp only [List.length_set]; exact h.syn, by simp only [List.length_set]; exact h.all⟩
  · rw [if_neg hh] at he ⊢
    by_cases h24 : f.nodes.length = 24
    · rw [if_pos h24] at he; simp at he
    · rw [if_neg h24]
      have hlen : (f.nodes ++ [(⟨tx, []⟩ : Nd)]).length = f.nodes.length + 1 := by simp
      have hl := h.len
      have hnone : ∀ y ∈ f.dir, y.name ≠ n := fun y hy e => hh (has_mem.2 ⟨y, hy, e⟩)
      refine ⟨by rw [hlen]; omega, ?_, ?_, ?_, ?_⟩
      · intro x hx
        rcases List.mem_append.1 hx with hx | hx
        · exact h.small x hx
        · rw [List.mem_singleton.1 hx]; exact ⟨ht, Nat.zero_le _⟩
      · rw [hlen]
        exact (h.dir.mono (by omega)).withE hn (by simp only; omega) (fun y hy _ e => by have := (h.dir.rg y hy).2; simp only at e; omega)
      · rw [hlen]; exact h.syn.mono (by omega)
      · intro i hi
        rw [hlen] at hi
        by_cases e : i = f.nodes.length
        · subst e
          exact named_in (d := withE f.dir ⟨n, (f.nodes.length : Nat)⟩) (s := f.syn) (Or.inl rfl) (e := ⟨n, (f.nodes.length : Nat)⟩) (mem_withE.2 (Or.inl rfl))
        · have h1 := h.all i (by omega)
          obtain ⟨e, he, e2⟩ := named_mem h1
          rcases he with he | he
          · have := named_in (d := withE f.dir ⟨n, (f.nodes.length : Nat)⟩) (s := f.syn) (Or.inl rfl) (mem_withE.2 (Or.inr ⟨he, ne_lt.2 (hnone e he)⟩))
            rw [e2] at this; exact this
          · have := named_in (d := withE f.dir ⟨n, (f.nodes.length : Nat)⟩) (s := f.syn) (Or.inr rfl) he
            rw [e2] at this; exact this
theorem turned_near {f : T} (h : Ok f) {o : Op} (hh : has f.dir o.name = true) (ht : o.kind = 3 → isName o.to = true) : Near (turned f o (nodeOf f.dir o.name)) := by
  have hr := nodeOf_rg h.dir hh
  unfold turned
  split
  · unfold landN
    exact ⟨by simp only [List.length_set]; exact h.len, set_small h.small (by rw [if_pos rfl]; exact ⟨(getD_small h.small _).1, (getD_small h.small _).1⟩), by simp only [List.length_set]; exact h.dir, by simp only [List.length_set]; exact h.syn⟩
  · split
    · rename_i hk
      refine ⟨h.len, h.small, ?_, h.syn⟩
      exact (h.dir.less _).withE (ht hk) hr (fun y hy _ e => by
        obtain ⟨hy1, hy2⟩ := mem_less.1 hy
        have := node_inj h.dir hy1 (nodeOf_mem h.dir.up hh) e
        rw [this] at hy2
        exact hy2 rfl)
    · exact ⟨h.len, h.small, h.dir.less _, h.syn⟩
theorem op_name {o : Op} (h : opE o = 0) : (o.kind ≠ 5 → isName o.name = true) ∧ (o.kind = 3 → isName o.to = true) ∧ o.text.length ≤ 65536 ∧ 1 ≤ o.kind ∧ o.kind ≤ 5 := by
  unfold opE at h
  split at h
  · cases h
  split at h
  · cases h
  split at h
  · cases h
  rename_i h1 h2 h3
  have h2 : said o = true := by simpa using h2
  unfold said at h2
  rw [Bool.and_eq_true, Bool.and_eq_true] at h2
  refine ⟨fun hk => ?_, fun hk => ?_, by omega, by omega, by omega⟩
  · have := h2.1.1; rwa [if_neg hk] at this
  · have := h2.1.2; rwa [if_pos hk] at this
theorem doOp_wrote {f : T} {o : Op} (h : opE o = 0) (hk : o.kind = 1) : doOp f o = wroteR f o.name o.text := by
  unfold doOp wroteR
  rw [if_neg (by rw [h]; simp), if_pos hk]
theorem doOp_sync {f : T} {o : Op} (h : opE o = 0) (hk : o.kind = 5) : doOp f o = (swept ⟨f.nodes, f.dir, f.dir⟩, 0) := by
  unfold doOp
  rw [if_neg (by rw [h]; simp), if_neg (by omega), if_pos hk]
theorem doOp_turn {f : T} {o : Op} (h : opE o = 0) (hk : o.kind = 2 ∨ o.kind = 3 ∨ o.kind = 4) : doOp f o = if has f.dir o.name = false then (nul, 5) else (swept (turned f o (nodeOf f.dir o.name)), 0) := by
  unfold doOp
  rw [if_neg (by rw [h]; simp), if_neg (by omega), if_neg (by omega)]
theorem doOp_bad {f : T} {o : Op} (h : opE o ≠ 0) : doOp f o = (nul, opE o) := by unfold doOp; rw [if_pos h]
theorem kinds {o : Op} (h : opE o = 0) : o.kind = 1 ∨ o.kind = 5 ∨ (o.kind = 2 ∨ o.kind = 3 ∨ o.kind = 4) := by
  have := op_name h; omega
/-- WHAT AN OP LEAVES IS A FILE SYSTEM AGAIN -/
theorem doOp_ok {f : T} (h : Ok f) {o : Op} (he : (doOp f o).2 = 0) : Ok (doOp f o).1 := by
  by_cases h0 : opE o = 0
  · have hn := op_name h0
    rcases kinds h0 with hk | hk | hk
    · rw [doOp_wrote h0 hk] at he ⊢
      exact wrote_ok h (hn.1 (by omega)) hn.2.2.1 he
    · rw [doOp_sync h0 hk]
      exact swept_ok ⟨h.len, h.small, h.dir, h.dir⟩
    · rw [doOp_turn h0 hk] at he ⊢
      split at he
      · cases he
      · rename_i hh
        rw [if_neg hh]
        exact swept_ok (turned_near h (by simpa using hh) hn.2.1)
  · rw [doOp_bad h0] at he; exact absurd he h0
end Go.Proofs.Ytmjcdjekakaigaa.Fs
