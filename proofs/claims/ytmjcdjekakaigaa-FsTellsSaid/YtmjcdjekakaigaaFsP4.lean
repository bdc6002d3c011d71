/- Plain: what a name is (look), behind a write, behind a remove, behind a sweep; FsReads. -/
import Derived.Test.YtmjcdjekakaigaaFsP3
namespace Go.Proofs.Ytmjcdjekakaigaa.Fs
set_option linter.unusedVariables false

/-- what a name is: the live text of its node, or nothing -/
def look (f : T) (n : S) : Option S := if has f.dir n = true then some (f.nodes.getD (nodeOf f.dir n).toNat nulN).live else none
theorem read_look {f : T} (h : Ok f) (n : S) : read f n = match look f n with | some s => (s, 0) | none => ([], 5) := by
  unfold read look
  rw [if_neg (by rw [(check_ok f).2 h]; simp)]
  cases has f.dir n <;> simp
theorem look_mem {f : T} {k : Nat} (h : DirOk k f.dir) {x : En} (hx : x ∈ f.dir) : look f x.name = some (f.nodes.getD x.node.toNat nulN).live := by
  have hh : has f.dir x.name = true := has_mem.2 ⟨x, hx, rfl⟩
  have := name_inj h (nodeOf_mem h.up hh) hx rfl
  unfold look
  rw [if_pos hh]
  rw [show nodeOf f.dir x.name = x.node from congrArg En.node this]
theorem look_none {f : T} {n : S} (h : ∀ x ∈ f.dir, x.name ≠ n) : look f n = none := by
  unfold look
  rw [if_neg (fun hh => by obtain ⟨x, hx, e⟩ := has_mem.1 hh; exact h x hx e)]
theorem look_or (f : T) (n : S) : (∃ x ∈ f.dir, x.name = n) ∨ (∀ x ∈ f.dir, x.name ≠ n) := by
  by_cases h : ∃ x ∈ f.dir, x.name = n
  · exact Or.inl h
  · exact Or.inr (fun x hx e => h ⟨x, hx, e⟩)
/-- two file systems in which a name is the same -/
theorem look_same {f g : T} {k k' : Nat} (hf : DirOk k f.dir) (hg : DirOk k' g.dir) (n : S)
    (h1 : ∀ x ∈ f.dir, x.name = n → ∃ y ∈ g.dir, y.name = n ∧ (g.nodes.getD y.node.toNat nulN).live = (f.nodes.getD x.node.toNat nulN).live)
    (h2 : ∀ y ∈ g.dir, y.name = n → ∃ x ∈ f.dir, x.name = n) : look g n = look f n := by
  rcases look_or f n with ⟨x, hx, e⟩ | hno
  · obtain ⟨y, hy, e2, e3⟩ := h1 x hx e
    have a := look_mem hf hx
    have b := look_mem hg hy
    rw [e] at a; rw [e2] at b
    rw [a, b, e3]
  · rw [look_none hno, look_none (fun y hy e => by obtain ⟨x, hx, e2⟩ := h2 y hy e; exact hno x hx e2)]
theorem getD_set_same {l : List Nd} {i : Nat} (h : i < l.length) (y : Nd) : (l.set i y).getD i nulN = y := by simp [List.getD, h]
theorem getD_set_ne {l : List Nd} {i j : Nat} (h : i ≠ j) (y : Nd) : (l.set i y).getD j nulN = l.getD j nulN := by simp [List.getD, List.getElem?_set_ne h]
theorem getD_app_lt {l : List Nd} {j : Nat} (h : j < l.length) (y : Nd) : (l ++ [y]).getD j nulN = l.getD j nulN := by simp [List.getD, List.getElem?_append_left h]
theorem getD_app_eq {l : List Nd} (y : Nd) : (l ++ [y]).getD l.length nulN = y := by simp [List.getD]
theorem wrote_look {f : T} (h : Ok f) {n tx : S} (hn : isName n = true) (ht : tx.length ≤ 65536) (he : (wroteR f n tx).2 = 0) :
    look (wroteR f n tx).1 n = some tx ∧ ∀ m, m ≠ n → look (wroteR f n tx).1 m = look f m := by
  have hok := wrote_ok h hn ht he
  unfold wroteR at he hok ⊢
  by_cases hh : has f.dir n = true
  · rw [if_pos hh] at hok ⊢
    have hr := nodeOf_rg h.dir hh
    have hme := nodeOf_mem h.dir.up hh
    constructor
    · have := look_mem hok.dir hme
      simp only at this ⊢
      rw [this, getD_set_same (by omega)]
    · intro m hm
      refine look_same h.dir hok.dir m (fun x hx e => ⟨x, hx, e, ?_⟩) (fun y hy e => ⟨y, hy, e⟩)
      have hrx := h.dir.rg x hx
      rw [getD_set_ne]
      intro e2
      have : x.node = nodeOf f.dir n := by omega
      have := node_inj h.dir hx hme this
      exact hm (by rw [← e, this])
  · rw [if_neg hh] at he hok ⊢
    by_cases h24 : f.nodes.length = 24
    · rw [if_pos h24] at he; simp at he
    · rw [if_neg h24] at hok ⊢
      constructor
      · have := look_mem hok.dir (x := ⟨n, (f.nodes.length : Nat)⟩) (mem_withE.2 (Or.inl rfl))
        simp only at this ⊢
        rw [this, Int.toNat_natCast, getD_app_eq]
      · intro m hm
        refine look_same h.dir hok.dir m (fun x hx e => ⟨x, mem_withE.2 (Or.inr ⟨hx, ne_lt.2 (by rw [e]; exact hm)⟩), e, ?_⟩) (fun y hy e => ?_)
        · have hrx := h.dir.rg x hx
          rw [getD_app_lt (by omega)]
        · rcases mem_withE.1 hy with rfl | ⟨hy, _⟩
          · exact absurd e.symm hm
          · exact ⟨y, hy, e⟩
theorem keepN_at {d s : List En} (l : List Nd) : ∀ (n i : Nat), i < n → named d s (i : Int) = true → (keepN d s l n).getD (fewer d s i) nulN = l.getD i nulN
  | 0, i, h, _ => by omega
  | n + 1, i, h, hn => by
    by_cases e : i = n
    · subst e
      rw [keepN_yes l hn]
      have hl := keepN_len d s l i
      rw [← hl, getD_app_eq]
    · have ih := keepN_at l n i (by omega) hn
      cases hc : named d s (n : Int) with
      | false => rw [keepN_no l hc]; exact ih
      | true =>
        rw [keepN_yes l hc, getD_app_lt (by rw [keepN_len]; exact fewer_lt (by omega) hn)]
        exact ih
theorem swept_look {g : T} (h : Near g) (m : S) : look (swept g) m = look g m := by
  have hok := swept_ok h
  refine look_same h.dir hok.dir m (fun x hx e => ⟨⟨x.name, (fewer g.dir g.syn x.node.toNat : Nat)⟩, List.mem_map.2 ⟨x, hx, rfl⟩, e, ?_⟩) (fun y hy e => ?_)
  · have hr := h.dir.rg x hx
    have hnm : named g.dir g.syn ((x.node.toNat : Nat) : Int) = true := by
      have := named_in (d := g.dir) (s := g.syn) (Or.inl rfl) hx
      rw [Int.toNat_of_nonneg hr.1]; exact this
    show ((swept g).nodes.getD (fewer g.dir g.syn x.node.toNat : Int).toNat nulN).live = _
    rw [Int.toNat_natCast]
    exact congrArg Nd.live (keepN_at g.nodes g.nodes.length x.node.toNat (by omega) hnm)
  · obtain ⟨x, hx, rfl⟩ := List.mem_map.1 hy
    exact ⟨x, hx, e⟩
theorem less_look {f : T} (h : Ok f) (n : S) : look ⟨f.nodes, less f.dir n, f.syn⟩ n = none ∧ ∀ m, m ≠ n → look ⟨f.nodes, less f.dir n, f.syn⟩ m = look f m := by
  constructor
  · exact look_none (fun x hx => (mem_less.1 hx).2)
  · intro m hm
    exact look_same h.dir (g := ⟨f.nodes, less f.dir n, f.syn⟩) (h.dir.less n) m (fun x hx e => ⟨x, mem_less.2 ⟨hx, by rw [e]; exact hm⟩, e, rfl⟩) (fun y hy e => ⟨y, (mem_less.1 hy).1, e⟩)
theorem play_one {f : T} {o : Op} (h : (play f [o]).2 = 0) : Ok f ∧ (doOp f o).2 = 0 ∧ (play f [o]).1 = (doOp f o).1 := by
  unfold play at h ⊢
  split at h
  · rename_i h1; exact absurd h h1
  rename_i h1
  rw [if_neg h1]
  have hl : ¬ 64 < [o].length := by simp
  rw [if_neg hl] at h ⊢
  simp only [playF] at h ⊢
  split at h
  · rename_i h2; exact absurd h h2
  · rename_i h2
    exact ⟨(check_ok f).1 (by omega), by omega, by rw [if_neg h2]⟩
theorem play_of {f : T} {o : Op} (h : Ok f) (h2 : (doOp f o).2 = 0) : play f [o] = ((doOp f o).1, 0) := by
  unfold play
  rw [if_neg (by rw [(check_ok f).2 h]; simp), if_neg (by simp)]
  simp only [playF]
  rw [if_neg (by rw [h2]; simp)]
/-- WHAT FsReads SAYS -/
theorem reads_law {f : T} {n tx : S} (h : (play f [⟨1, n, [], tx⟩]).2 = 0) :
    read (play f [⟨1, n, [], tx⟩]).1 n = (tx, 0) ∧ (play (play f [⟨1, n, [], tx⟩]).1 [⟨4, n, [], []⟩]).2 = 0 ∧
      read (play (play f [⟨1, n, [], tx⟩]).1 [⟨4, n, [], []⟩]).1 n = ([], 5) ∧
      ∀ m, m ≠ n → read (play f [⟨1, n, [], tx⟩]).1 m = read f m ∧ read (play (play f [⟨1, n, [], tx⟩]).1 [⟨4, n, [], []⟩]).1 m = read f m := by
  obtain ⟨hok, hd, e1⟩ := play_one h
  rw [e1]
  have hop : opE ⟨1, n, [], tx⟩ = 0 := by
    rcases Nat.eq_zero_or_pos (opE ⟨1, n, [], tx⟩) with h0 | h0
    · exact h0
    · rw [doOp_bad (by omega)] at hd; simp only at hd; omega
  have hw := doOp_wrote hop rfl (f := f)
  simp only at hw
  obtain ⟨hn, _, ht, _, _⟩ := op_name hop
  have hn := hn (by simp)
  simp only at hn ht
  have hok1 := doOp_ok hok hd
  rw [hw] at hd hok1 ⊢
  obtain ⟨w1, w2⟩ := wrote_look hok hn ht hd
  generalize (wroteR f n tx).1 = g at *
  have hop4 : opE ⟨4, n, [], []⟩ = 0 := by
    unfold opE said
    simp [hn]
  have hh : has g.dir n = true := by
    unfold look at w1
    by_cases hc : has g.dir n = true
    · exact hc
    · rw [if_neg hc] at w1; cases w1
  have ht4 := doOp_turn hop4 (Or.inr (Or.inr rfl)) (f := g)
  simp only at ht4
  rw [if_neg (by rw [hh]; simp)] at ht4
  have hnear := turned_near hok1 (o := ⟨4, n, [], []⟩) hh (by simp)
  have htn : turned g ⟨4, n, [], []⟩ (nodeOf g.dir n) = ⟨g.nodes, less g.dir n, g.syn⟩ := by
    unfold turned; simp
  simp only at hnear
  rw [htn] at ht4 hnear
  have hp := play_of hok1 (o := ⟨4, n, [], []⟩) (by rw [ht4])
  rw [hp, ht4]
  simp only
  have hokb := swept_ok hnear
  obtain ⟨l1, l2⟩ := less_look hok1 n
  refine ⟨by rw [read_look hok1, w1], trivial, by rw [read_look hokb, swept_look hnear, l1], fun m hm => ⟨by rw [read_look hok1, read_look hok, w2 m hm], by rw [read_look hokb, swept_look hnear, l2 m hm, read_look hok, w2 m hm]⟩⟩
end Go.Proofs.Ytmjcdjekakaigaa.Fs
