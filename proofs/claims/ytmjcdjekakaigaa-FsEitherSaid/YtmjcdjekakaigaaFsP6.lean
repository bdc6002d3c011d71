/- Plain: behind a crash a name is what it was now, or for good. -/
import Derived.Test.YtmjcdjekakaigaaFsP5
namespace Go.Proofs.Ytmjcdjekakaigaa.Fs
set_option linter.unusedVariables false

/-- the node of the last entry of a name; -1: there is none -/
def lst (l : List En) (n : S) : Int := l.foldl (fun a e => if e.name = n then e.node else a) (-1)
theorem lst_snoc (l : List En) (x : En) (n : S) : lst (l ++ [x]) n = if x.name = n then x.node else lst l n := by simp [lst]
theorem fold_or (n : S) : ∀ (l : List En) (a : Int), (l.foldl (fun a e => if e.name = n then e.node else a) a = a ∧ ∀ x ∈ l, x.name ≠ n) ∨ ∃ x ∈ l, x.name = n ∧ l.foldl (fun a e => if e.name = n then e.node else a) a = x.node
  | [], a => Or.inl ⟨rfl, by simp⟩
  | y :: r, a => by
    rw [List.foldl_cons]
    rcases fold_or n r (if y.name = n then y.node else a) with ⟨h1, h2⟩ | ⟨x, hx, h1, h2⟩
    · by_cases e : y.name = n
      · exact Or.inr ⟨y, by simp, e, by rw [h1, if_pos e]⟩
      · refine Or.inl ⟨by rw [h1, if_neg e], fun x hx => ?_⟩
        rcases List.mem_cons.1 hx with rfl | hx
        · exact e
        · exact h2 x hx
    · exact Or.inr ⟨x, List.mem_cons_of_mem _ hx, h1, h2⟩
theorem lst_or (l : List En) (n : S) : (lst l n = -1 ∧ ∀ x ∈ l, x.name ≠ n) ∨ ∃ x ∈ l, x.name = n ∧ lst l n = x.node := fold_or n l (-1)
/-- what the law asks of a list -/
def eiO (f : T) (r : S × Nat) (n : S) (i : Int) : Bool :=
  if i < 0 then decide (r.2 = 5) else decide (r.2 = 0) && (decide (r.1 = (f.nodes.getD i.toNat nulN).live) || decide (r.1 = (f.nodes.getD i.toNat nulN).syn))
theorem either_of {f : T} (h : Ok f) (m : Nat) (n : S) {L : List En} (hL : crashD f m = L) (hd : DirOk f.nodes.length L) : eiO f (read (crash f m).1 n) n (lst L n) = true := by
  have hN := landed_near h m
  rw [crash_ok h m]
  have hO := swept_ok hN
  rw [read_look hO, swept_look hN]
  rw [hL]
  rcases lst_or L n with ⟨h1, h2⟩ | ⟨x, hx, rfl, h1⟩
  · rw [look_none (f := ⟨landed f.nodes m, L, L⟩) h2, h1]
    simp [eiO]
  · rw [look_mem (f := ⟨landed f.nodes m, L, L⟩) (k := f.nodes.length) hd hx, h1]
    have hr := hd.rg x hx
    have h0 : ¬ x.node < 0 := by omega
    simp only [eiO, if_neg h0]
    rw [landed_gt m (show x.node.toNat < f.nodes.length by omega)]
    split <;> simp
theorem either_law {f : T} (h : Ok f) (m : Nat) (n : S) : (eiO f (read (crash f m).1 n) n (lst f.dir n) || eiO f (read (crash f m).1 n) n (lst f.syn n)) = true := by
  rcases crashD_or f m with hD | hD
  · rw [either_of h m n hD h.dir]; rfl
  · rw [either_of h m n hD h.syn]; simp
theorem lst_rg {f : T} (h : Ok f) (n : S) {L : List En} (hL : L = f.dir ∨ L = f.syn) : -1 ≤ lst L n ∧ lst L n < (f.nodes.length : Int) := by
  have hd : DirOk f.nodes.length L := by rcases hL with rfl | rfl; exact h.dir; exact h.syn
  rcases lst_or L n with ⟨h1, _⟩ | ⟨x, hx, _, h1⟩
  · rw [h1]; omega
  · have := hd.rg x hx
    rw [h1]; omega
end Go.Proofs.Ytmjcdjekakaigaa.Fs
