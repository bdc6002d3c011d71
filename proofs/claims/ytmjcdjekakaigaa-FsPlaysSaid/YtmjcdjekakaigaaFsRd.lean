/- fs.Read. -/
import Derived.Test.YtmjcdjekakaigaaFsCk
namespace Go.Proofs.Ytmjcdjekakaigaa.Fs
open Go.RowKit
set_option linter.unusedVariables false

def TextEPost (r : S × Nat) (w : World) (e : Ending) (w' : World) : Prop := e = .returned (.tuple #[.string (str r.1), .int .i64 (r.2 : Nat)]) ∧ Below w.heap.size w w'
set_option maxHeartbeats 2000000 in
set_option maxRecDepth 100000 in
theorem read_any (p : At) (f : T) (n : S) (w : World) (h : Fss w w.heap.size p f) :
    Calls Try.prog 8 #[fsV p f, .string (str n)] w (TextEPost (read f n) w) := by
  have hal : Below w.heap.size w (w.alloc (.cells #[.slice p.an f.nodes.length p.cn, .slice p.ad f.dir.length p.cd, .slice p.ay f.syn.length p.cy] 25)) := (Below.refl _ _).alloc (Nat.le_refl _) _
  have hT : Bk (w.alloc (.cells #[.slice p.an f.nodes.length p.cn, .slice p.ad f.dir.length p.cd, .slice p.ay f.syn.length p.cy] 25)) w.heap.size 25 #[.slice p.an f.nodes.length p.cn, .slice p.ad f.dir.length p.cd, .slice p.ay f.syn.length p.cy] := bk_new _ _ _
  have HF := Lib.hid (h.next hal)
  have HT := Lib.hid hT
  have HC := Lib.hid (check_any p f _ (h.next hal))
  have hs0 := hal.size
  have hcl := check_lt f
  unfold read
  obtain ⟨an, cn, ad, cd, ay, cy⟩ := p
  unfold fsV at *
  simp only at *
  have b := hT.three
  obtain ⟨b0, b1, b2⟩ := b
  clear h hT
  by_cases hc : check f ≠ 0
  · rw [if_pos hc]
    have g1 : ((check f : Int) != 0) = true := by rw [bne_iff_ne]; omega
    generalize check f = er at *
    go_enter Try.func8, Try.ntmps8
    go_wp2_with fail
    refine (HC.out).mono ?_
    rintro e w1 ⟨rfl, hb1⟩
    go_wp2_with fail
    go_ret2
    exact ⟨rfl, hal.trans (hb1.mono hs0)⟩
  rw [if_neg hc]
  have hc0 : check f = 0 := by omega
  have hok := (check_ok f).1 hc0
  have hdl := dir_len hok.dir
  have hnl := hok.len
  have HP := Lib.hid (fun W (hb : Below (w.alloc (.cells #[.slice an f.nodes.length cn, .slice ad f.dir.length cd, .slice ay f.syn.length cy] 25)).heap.size (w.alloc (.cells #[.slice an f.nodes.length cn, .slice ad f.dir.length cd, .slice ay f.syn.length cy] 25)) W) => place_any n ad cd f.dir W (by omega) (HF.out.dir.next enAt_firm hb) hok.dir.up)
  rw [hc0] at HC
  clear hc hc0
  cases hh : has f.dir n with
  | false =>
    rw [hh] at HP
    rw [if_pos rfl]
    generalize pos f.dir n = q at *
    go_enter Try.func8, Try.ntmps8
    go_wp2_with fail
    refine (HC.out).mono ?_
    rintro e w1 ⟨rfl, hb1⟩
    obtain ⟨d0, d1, d2⟩ := (HT.out.next hb1).three
    go_wp2_with fail
    refine (HP.out _ hb1).mono ?_
    rintro e w2 ⟨rfl, hb2⟩
    go_wp2_with fail
    go_ret2
    exact ⟨rfl, hal.trans ((below_then hb1 hb2).mono hs0)⟩
  | true =>
    rw [hh] at HP
    rw [if_neg (by simp)]
    obtain ⟨g1, g2⟩ := (has_iff hok.dir.up n).1 hh
    have g3 := nodeOf_at hok.dir.up hh
    have g4 := hok.dir.rg _ (getD_mem f.dir nulE _ g1)
    rw [← g3] at g4
    obtain ⟨nb, noff, rfl, hnb, hncc⟩ := HF.out.nds (fun e => by rw [e] at g4; simp at g4; omega)
    obtain ⟨db, doff, rfl, hdb, hdcc⟩ := HF.out.dir (fun e => by rw [e] at g1; simp at g1)
    have HD := Lib.hid (hdcc _ g1)
    unfold enAt at HD
    rw [← g3] at HD
    obtain ⟨i, hi⟩ : ∃ i : Nat, nodeOf f.dir n = (i : Int) := ⟨(nodeOf f.dir n).toNat, by omega⟩
    have hil : i < f.nodes.length := by omega
    have HNC := Lib.hid (hncc i hil)
    rw [hi] at HD ⊢
    rw [Int.toNat_natCast]
    unfold ndAt at HNC
    generalize (f.nodes.getD i nulN).live = tx at *
    generalize pos f.dir n = q at *
    have hilI : (i : Int) < (f.nodes.length : Int) := by omega
    clear g2 g3 g4 hdcc hncc hi hok
    go_enter Try.func8, Try.ntmps8
    go_wp2_with fail
    refine (HC.out).mono ?_
    rintro e w1 ⟨rfl, hb1⟩
    obtain ⟨d0, d1, d2⟩ := (HT.out.next hb1).three
    go_wp2_with fail
    refine (HP.out _ hb1).mono ?_
    rintro e w2 ⟨rfl, hb2⟩
    have hb12 := below_then hb1 hb2
    obtain ⟨e0, e1, e2⟩ := (HT.out.next hb12).three
    have k1 := (hb12.cell (p := ⟨db, doff + q * 2 + 1, none⟩) hdb).trans HD.out.2
    have k2 := (hb12.cell (p := ⟨nb, noff + i * 2, none⟩) hnb).trans HNC.out.1
    clear d0 d1 d2
    go_wp2_with fail
    go_quiet (fail)
    go_wp2_with fail
    go_ret2
    exact ⟨rfl, hal.trans ((below_drewN hb12 _).mono hs0)⟩
end Go.Proofs.Ytmjcdjekakaigaa.Fs
