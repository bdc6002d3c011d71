/- A file system that a region has laid into a block of its own. -/
import Derived.Test.YtmjcdjekakaigaaFsR7
namespace Go.Proofs.Ytmjcdjekakaigaa.Fs
open Go.RowKit
set_option linter.unusedVariables false

theorem own_put {w : World} {B O : Nat} {f : T} {nv dv sv : Value} {vs : Array Value} (h : Own w B f nv dv sv) (hb : Bk w O 25 vs) (x y z : Value) :
    Own (((w.setCell ⟨O, 0, none⟩ x).setCell ⟨O, 1, none⟩ y).setCell ⟨O, 2, none⟩ z) B f nv dv sv :=
  ⟨row_put3 h.nro hb (by decide) x y z, row_put3 h.dro hb (by decide) x y z, row_put3 h.sro hb (by decide) x y z, h.far, h.nok, h.dok, h.sok⟩
theorem bk_put3 {w : World} {O : Nat} {a b c : Value} (hb : Bk w O 25 #[a, b, c]) (x y z : Value) : Bk (((w.setCell ⟨O, 0, none⟩ x).setCell ⟨O, 1, none⟩ y).setCell ⟨O, 2, none⟩ z) O 25 #[x, y, z] := by
  have := ((hb.set 0 x).set 1 y).set 2 z
  simpa using this
theorem own_fss2 {w : World} {B n m k cn cd cy : Nat} {f : T} {an ad ay : Option Addr} (h : Own w B f (.slice an n cn) (.slice ad m cd) (.slice ay k cy)) : Fss w w.heap.size ⟨an, cn, ad, cd, ay, cy⟩ f := by
  obtain ⟨p, e1, e2, e3, hf⟩ := h.fss
  obtain ⟨q1, q2, q3, q4, q5, q6⟩ := p
  simp only [Value.slice.injEq] at e1 e2 e3
  obtain ⟨rfl, _, rfl⟩ := e1
  obtain ⟨rfl, _, rfl⟩ := e2
  obtain ⟨rfl, _, rfl⟩ := e3
  exact hf
/-- a file system that a region has laid into a block of its own -/
structure Put (W0 WF : World) (O : Nat) (f : T) (p : At) : Prop where
  bel : Below W0.heap.size W0 WF
  bk : Bk WF O 25 #[.slice p.an f.nodes.length p.cn, .slice p.ad f.dir.length p.cd, .slice p.ay f.syn.length p.cy]
  fs : Fss WF WF.heap.size p f
theorem put_last {W0 w9 : World} {B : Nat} {f : T} {p : At} (h : Own w9 B f (.slice p.an f.nodes.length p.cn) (.slice p.ad f.dir.length p.cd) (.slice p.ay f.syn.length p.cy)) (hb : Below W0.heap.size W0 w9) :
    Put W0 (w9.alloc (.cells #[.slice p.an f.nodes.length p.cn, .slice p.ad f.dir.length p.cd, .slice p.ay f.syn.length p.cy] 25)) w9.heap.size f p :=
  ⟨hb.alloc hb.size _, bk_new _ _ _, (own_fss2 h).next ((Below.refl _ _).alloc (Nat.le_refl _) _)⟩
theorem put_mid {W0 w9 : World} {B O : Nat} {f : T} {p : At} (h : Own w9 B f (.slice p.an f.nodes.length p.cn) (.slice p.ad f.dir.length p.cd) (.slice p.ay f.syn.length p.cy)) (hb : Below W0.heap.size W0 w9) (hO : W0.heap.size ≤ O)
    (hk : Bk w9 O 25 #[.slice none 0 0, .slice none 0 0, .slice none 0 0]) :
    Put W0 (((w9.setCell ⟨O, 0, none⟩ (.slice p.an f.nodes.length p.cn)).setCell ⟨O, 1, none⟩ (.slice p.ad f.dir.length p.cd)).setCell ⟨O, 2, none⟩ (.slice p.ay f.syn.length p.cy)) O f p :=
  ⟨((hb.setCell (p := ⟨O, 0, none⟩) hO _).setCell (p := ⟨O, 1, none⟩) hO _).setCell (p := ⟨O, 2, none⟩) hO _, bk_put3 hk _ _ _, own_fss2 (own_put h hk _ _ _)⟩
end Go.Proofs.Ytmjcdjekakaigaa.Fs
