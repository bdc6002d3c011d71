/- Plain: what was synced, file and directory, is there behind a crash: FsGood. -/
import Derived.Test.YtmjcdjekakaigaaFsP4
namespace Go.Proofs.Ytmjcdjekakaigaa.Fs
set_option linter.unusedVariables false

theorem playF_cons {f : T} {o : Op} {r : List Op} (h : (playF f (o :: r)).2 = 0) : (doOp f o).2 = 0 ∧ playF f (o :: r) = playF (doOp f o).1 r := by
  simp only [playF] at h ⊢
  split at h
  · rename_i h2; exact absurd h h2
  · rename_i h2; exact ⟨by omega, by rw [if_neg h2]⟩
theorem landed_ln (l : List Nd) (m : Nat) : (landed l m).length = l.length := by simp [landed]
theorem landed_gt {l : List Nd} (m : Nat) {i : Nat} (hi : i < l.length) : (landed l m).getD i nulN = if bit m i then ⟨(l.getD i nulN).live, (l.getD i nulN).live⟩ else ⟨(l.getD i nulN).syn, (l.getD i nulN).syn⟩ := by
  unfold landed
  simp only [List.getD, List.getElem?_map, List.getElem?_range hi, Option.map_some, Option.getD_some]
theorem landed_mem {l : List Nd} {m : Nat} {x : Nd} (hx : x ∈ landed l m) : ∃ y ∈ l, (x = ⟨y.live, y.live⟩ ∨ x = ⟨y.syn, y.syn⟩) := by
  unfold landed at hx
  obtain ⟨i, hi, rfl⟩ := List.mem_map.1 hx
  refine ⟨l.getD i nulN, getD_mem l nulN i (List.mem_range.1 hi), ?_⟩
  cases bit m i
  · exact Or.inr (by simp)
  · exact Or.inl (by simp)
theorem landed_same {l : List Nd} (m : Nat) (h : ∀ x ∈ l, x.live = x.syn) : landed l m = l := by
  refine List.ext_getElem (landed_ln l m) (fun i h1 h2 => ?_)
  have a := landed_gt m h2
  have hx := h _ (getD_mem l nulN i h2)
  rw [getD_at _ _ _ h1] at a
  rw [a]
  have e := getD_at l nulN i h2
  rw [e] at hx ⊢
  generalize l[i] = y at *
  cases y
  simp only at hx
  subst hx
  simp
theorem crashD_or (f : T) (m : Nat) : crashD f m = f.dir ∨ crashD f m = f.syn := by
  unfold crashD
  split
  · exact Or.inl rfl
  · exact Or.inr rfl
theorem landed_near {f : T} (h : Ok f) (m : Nat) : Near ⟨landed f.nodes m, crashD f m, crashD f m⟩ := by
  have hd : DirOk f.nodes.length (crashD f m) := by rcases crashD_or f m with e | e <;> rw [e]; exact h.dir; exact h.syn
  refine ⟨by simp only [landed_ln]; exact h.len, ?_, by simp only [landed_ln]; exact hd, by simp only [landed_ln]; exact hd⟩
  intro x hx
  obtain ⟨y, hy, e | e⟩ := landed_mem hx
  · rw [e]; exact ⟨(h.small y hy).1, (h.small y hy).1⟩
  · rw [e]; exact ⟨(h.small y hy).2, (h.small y hy).2⟩
theorem crash_ok {f : T} (h : Ok f) (m : Nat) : crash f m = (swept ⟨landed f.nodes m, crashD f m, crashD f m⟩, 0) := by
  unfold crash
  rw [if_neg (by rw [(check_ok f).2 h]; simp)]
/-- a crash leaves what another crash leaves as it is -/
theorem crash_twice {f : T} (h : Ok f) (m m' : Nat) : crash (crash f m).1 m' = ((crash f m).1, 0) := by
  rw [crash_ok h]
  have hn := landed_near h m
  have hb := swept_ok hn
  simp only
  have hs : ∀ x ∈ (swept ⟨landed f.nodes m, crashD f m, crashD f m⟩).nodes, x.live = x.syn := by
    intro x hx
    unfold swept keepN at hx
    obtain ⟨i, hi, rfl⟩ := List.mem_map.1 hx
    have hi := List.mem_range.1 (List.mem_filter.1 hi).1
    obtain ⟨y, _, e | e⟩ := landed_mem (getD_mem _ nulN i hi) <;> simp only at e ⊢ <;> rw [e]
  have hd : (swept ⟨landed f.nodes m, crashD f m, crashD f m⟩).syn = (swept ⟨landed f.nodes m, crashD f m, crashD f m⟩).dir := rfl
  generalize swept ⟨landed f.nodes m, crashD f m, crashD f m⟩ = b at *
  rw [crash_ok hb, landed_same m' hs]
  have : crashD b m' = b.dir := by rcases crashD_or b m' with e | e <;> rw [e]; exact hd
  rw [this]
  have e : (⟨b.nodes, b.dir, b.dir⟩ : T) = b := by cases b; simp only at hd; subst hd; rfl
  rw [e, swept_id hb]
/-- a name that stands in both lists, of a node that is the same now and for good, outlives a crash -/
theorem crash_keeps {f : T} (h : Ok f) (m : Nat) {n tx : S} {k : Int} (h1 : (⟨n, k⟩ : En) ∈ f.dir) (h2 : (⟨n, k⟩ : En) ∈ f.syn) (h3 : f.nodes.getD k.toNat nulN = ⟨tx, tx⟩) : read (crash f m).1 n = (tx, 0) := by
  rw [crash_ok h]
  have hn := landed_near h m
  have hr := h.dir.rg _ h1
  simp only at hr
  have hm : (⟨n, k⟩ : En) ∈ crashD f m := by rcases crashD_or f m with e | e <;> rw [e] <;> assumption
  have hl := look_mem (f := ⟨landed f.nodes m, crashD f m, crashD f m⟩) hn.dir (x := ⟨n, k⟩) hm
  simp only at hl
  rw [landed_gt m (by omega), h3] at hl
  simp only at hl
  rw [read_look (swept_ok hn), swept_look hn, hl]
  cases bit m k.toNat <;> simp
theorem turned_sync_ok {f : T} (h : Ok f) {i : Nat} : Ok ⟨landN f.nodes i true, f.dir, f.syn⟩ := by
  unfold landN
  exact ⟨by simp only [List.length_set]; exact h.len, set_small h.small (by rw [if_pos rfl]; exact ⟨(getD_small h.small _).1, (getD_small h.small _).1⟩), by simp only [List.length_set]; exact h.dir, by simp only [List.length_set]; exact h.syn, by simp only [List.length_set]; exact h.all⟩
/-- WHAT FsGood SAYS -/
theorem good_law {f : T} {n tx : S} (h : (play f [⟨1, n, [], tx⟩, ⟨2, n, [], []⟩, ⟨5, [], [], []⟩]).2 = 0) (m m' : Nat) :
    (crash (play f [⟨1, n, [], tx⟩, ⟨2, n, [], []⟩, ⟨5, [], [], []⟩]).1 m).2 = 0 ∧ read (crash (play f [⟨1, n, [], tx⟩, ⟨2, n, [], []⟩, ⟨5, [], [], []⟩]).1 m).1 n = (tx, 0) ∧
      crash (crash (play f [⟨1, n, [], tx⟩, ⟨2, n, [], []⟩, ⟨5, [], [], []⟩]).1 m).1 m' = ((crash (play f [⟨1, n, [], tx⟩, ⟨2, n, [], []⟩, ⟨5, [], [], []⟩]).1 m).1, 0) ∧
      check (crash (play f [⟨1, n, [], tx⟩, ⟨2, n, [], []⟩, ⟨5, [], [], []⟩]).1 m).1 = 0 := by
  have hok : Ok f := by
    unfold play at h
    split at h
    · rename_i h1; exact absurd h h1
    · rename_i h1; exact (check_ok f).1 (by omega)
  have hp : play f [⟨1, n, [], tx⟩, ⟨2, n, [], []⟩, ⟨5, [], [], []⟩] = playF f [⟨1, n, [], tx⟩, ⟨2, n, [], []⟩, ⟨5, [], [], []⟩] := by
    unfold play
    rw [if_neg (by rw [(check_ok f).2 hok]; simp), if_neg (by simp)]
  rw [hp] at h ⊢
  obtain ⟨hd1, e1⟩ := playF_cons h
  rw [e1] at h ⊢
  have hop : opE ⟨1, n, [], tx⟩ = 0 := by
    rcases Nat.eq_zero_or_pos (opE ⟨1, n, [], tx⟩) with h0 | h0
    · exact h0
    · rw [doOp_bad (by omega)] at hd1; simp only at hd1; omega
  have hw := doOp_wrote hop rfl (f := f)
  simp only at hw
  obtain ⟨hn, _, ht, _, _⟩ := op_name hop
  have hn := hn (by simp)
  simp only at hn ht
  have hok1 := doOp_ok hok hd1
  obtain ⟨w1, -⟩ := wrote_look hok hn ht (by rw [← hw]; exact hd1)
  rw [← hw] at w1
  clear hw e1 hp hd1
  generalize (doOp f ⟨1, n, [], tx⟩).1 = g at *
  obtain ⟨hd2, e2⟩ := playF_cons h
  rw [e2] at h ⊢
  have hh : has g.dir n = true := by
    unfold look at w1
    by_cases hc : has g.dir n = true
    · exact hc
    · rw [if_neg hc] at w1; cases w1
  have hme := nodeOf_mem hok1.dir.up hh
  have hop2 : opE ⟨2, n, [], []⟩ = 0 := by
    unfold opE said
    simp [hn]
  have ht2 := doOp_turn hop2 (Or.inl rfl) (f := g)
  simp only at ht2
  rw [if_neg (by rw [hh]; simp)] at ht2
  have htn : turned g ⟨2, n, [], []⟩ (nodeOf g.dir n) = ⟨landN g.nodes (nodeOf g.dir n).toNat true, g.dir, g.syn⟩ := by
    unfold turned; simp
  have hokt := turned_sync_ok hok1 (i := (nodeOf g.dir n).toNat)
  rw [htn, swept_id hokt] at ht2
  have hlive : (g.nodes.getD (nodeOf g.dir n).toNat nulN).live = tx := by
    unfold look at w1
    rw [if_pos hh] at w1
    exact Option.some.inj w1
  have hr := hok1.dir.rg _ hme
  simp only at hr
  have hnd : (landN g.nodes (nodeOf g.dir n).toNat true).getD (nodeOf g.dir n).toNat nulN = ⟨tx, tx⟩ := by
    unfold landN
    rw [if_pos rfl, getD_set_same (by omega), hlive]
  rw [ht2] at h ⊢
  simp only at h ⊢
  generalize hk : nodeOf g.dir n = k at *
  generalize landN g.nodes k.toNat true = l2 at *
  obtain ⟨hd3, e3⟩ := playF_cons h
  rw [e3]
  have hop5 : opE ⟨5, [], [], []⟩ = 0 := by decide
  have ht3 := doOp_sync hop5 rfl (f := ⟨l2, g.dir, g.syn⟩)
  simp only at ht3
  rw [ht3]
  simp only [playF]
  have hnear : Near ⟨l2, g.dir, g.dir⟩ := ⟨hokt.len, hokt.small, hokt.dir, hokt.dir⟩
  have hoka := swept_ok hnear
  have hnm : named g.dir g.dir ((k.toNat : Nat) : Int) = true := by
    have := named_in (d := g.dir) (s := g.dir) (Or.inl rfl) hme
    rw [Int.toNat_of_nonneg hr.1]; exact this
  have hl2 : k.toNat < l2.length := by have := hokt.dir.rg _ hme; simp only at this; omega
  have q1 : (⟨n, (fewer g.dir g.dir k.toNat : Nat)⟩ : En) ∈ (swept ⟨l2, g.dir, g.dir⟩).dir := List.mem_map.2 ⟨⟨n, k⟩, hme, rfl⟩
  have q2 : (⟨n, (fewer g.dir g.dir k.toNat : Nat)⟩ : En) ∈ (swept ⟨l2, g.dir, g.dir⟩).syn := List.mem_map.2 ⟨⟨n, k⟩, hme, rfl⟩
  have q3 : (swept ⟨l2, g.dir, g.dir⟩).nodes.getD (fewer g.dir g.dir k.toNat : Int).toNat nulN = ⟨tx, tx⟩ := by
    rw [Int.toNat_natCast, ← hnd]
    exact keepN_at l2 l2.length k.toNat hl2 hnm
  generalize swept ⟨l2, g.dir, g.dir⟩ = a at *
  refine ⟨by rw [crash_ok hoka], crash_keeps hoka m q1 q2 q3, crash_twice hoka m m', ?_⟩
  rw [crash_ok hoka]
  exact (check_ok _).2 (swept_ok (landed_near hoka m))
end Go.Proofs.Ytmjcdjekakaigaa.Fs
