/- fs.Do. -/
import Derived.Test.YtmjcdjekakaigaaFsPy
namespace Go.Proofs.Ytmjcdjekakaigaa.Fs
open Go.RowKit
set_option linter.unusedVariables false

theorem ops_one (w : World) (o : Op) : Ops (w.alloc (.cells #[.int .i64 o.kind, .string (str o.name), .string (str o.to), .string (str o.text)] 27)) (w.alloc (.cells #[.int .i64 o.kind, .string (str o.name), .string (str o.to), .string (str o.text)] 27)).heap.size (some ⟨w.heap.size, 0, none⟩) [o] := fun _ => by
  have hB := bk_new w 27 #[.int .i64 o.kind, .string (str o.name), .string (str o.to), .string (str o.text)]
  refine ⟨w.heap.size, 0, rfl, hB.lt, fun i hi => ?_⟩
  obtain rfl : i = 0 := by simpa using hi
  exact hB.four
set_option maxHeartbeats 4000000 in
set_option maxRecDepth 100000 in
theorem done_any (p : At) (f : T) (o : Op) (w : World) (h : Fss w w.heap.size p f) (ho : opOk o) :
    Calls Try.prog 9 #[fsV p f, opV o] w (FsPost (play f [o]) w) := by
  have hal0 := (Below.refl w.heap.size w).alloc (Nat.le_refl _) (.cells #[.slice p.an f.nodes.length p.cn, .slice p.ad f.dir.length p.cd, .slice p.ay f.syn.length p.cy] 25)
  have hT0 := bk_new w 25 #[.slice p.an f.nodes.length p.cn, .slice p.ad f.dir.length p.cd, .slice p.ay f.syn.length p.cy]
  have hF0 := h.next hal0
  have e1 : (w.alloc (.cells #[.slice p.an f.nodes.length p.cn, .slice p.ad f.dir.length p.cd, .slice p.ay f.syn.length p.cy] 25)).heap.size = w.heap.size + 1 := by simp
  generalize hWa : w.alloc (.cells #[.slice p.an f.nodes.length p.cn, .slice p.ad f.dir.length p.cd, .slice p.ay f.syn.length p.cy] 25) = Wa at *
  have hal1 := (Below.refl Wa.heap.size Wa).alloc (Nat.le_refl _) (.cells #[.int .i64 o.kind, .string (str o.name), .string (str o.to), .string (str o.text)] 27)
  have hO1 := bk_new Wa 27 #[.int .i64 o.kind, .string (str o.name), .string (str o.to), .string (str o.text)]
  have hT1 := hT0.next hal1
  have hF1 := hF0.next hal1
  have e2 : (Wa.alloc (.cells #[.int .i64 o.kind, .string (str o.name), .string (str o.to), .string (str o.text)] 27)).heap.size = w.heap.size + 2 := by simp [e1]
  generalize hWb : Wa.alloc (.cells #[.int .i64 o.kind, .string (str o.name), .string (str o.to), .string (str o.text)] 27) = Wb at *
  have hal2 := (Below.refl Wb.heap.size Wb).alloc (Nat.le_refl _) (.cells #[.slice none 0 0, .slice none 0 0, .slice none 0 0] 25)
  have hR := bk_new Wb 25 #[.slice none 0 0, .slice none 0 0, .slice none 0 0]
  have hO2 := hO1.next hal2
  have hT2 := hT1.next hal2
  have hF2 := hF1.next hal2
  have e3 : (Wb.alloc (.cells #[.slice none 0 0, .slice none 0 0, .slice none 0 0] 25)).heap.size = w.heap.size + 3 := by simp [e2]
  generalize hWc : Wb.alloc (.cells #[.slice none 0 0, .slice none 0 0, .slice none 0 0] 25) = Wc at *
  rw [e1] at hO2
  rw [e2] at hR
  have hal : Below w.heap.size w Wc := (hal0.trans (hal1.mono (by omega))).trans (hal2.mono (by omega))
  have HW := Lib.hid (show ((w.alloc (.cells #[.slice p.an f.nodes.length p.cn, .slice p.ad f.dir.length p.cd, .slice p.ay f.syn.length p.cy] 25)).alloc (.cells #[.int .i64 o.kind, .string (str o.name), .string (str o.to), .string (str o.text)] 27)).alloc (.cells #[.slice none 0 0, .slice none 0 0, .slice none 0 0] 25) = Wc by rw [hWa, hWb, hWc])
  have hal3 : Below Wc.heap.size Wc (Wc.alloc (.cells #[.int .i64 o.kind, .string (str o.name), .string (str o.to), .string (str o.text)] 27)) := (Below.refl _ _).alloc (Nat.le_refl _) _
  have HP := Lib.hid (play_any p f (some ⟨Wc.heap.size, 0, none⟩) 1 [o] _ (hF2.next hal3) (by unfold maxLen; simp) (ops_one Wc o) (by simpa using ho))
  obtain ⟨t0, t1, t2⟩ := hT2.three
  obtain ⟨o0, o1, o2, o3⟩ := hO2.four
  have hRw := hR.lt
  have HR := Lib.hid (hR.next hal3)
  unfold fsV opV at *
  obtain ⟨an, cn, ad, cd, ay, cy⟩ := p
  simp only at *
  rw [show [o].length = 1 from rfl] at HP
  generalize play f [o] = R at *
  have HE3 := Lib.hid e3
  clear e3 hWa hWb hWc hal0 hal1 hal2 hT0 hT1 hT2 hF0 hF1 hF2 hO1 hO2 hR e1 e2 h ho
  obtain ⟨RB, hRB⟩ : ∃ RB, RB = w.heap.size + 2 := ⟨_, rfl⟩
  rw [← hRB] at HR hRw
  go_enter Try.func9, Try.ntmps9
  go_wp2_with fail
  rw [HW.out]
  go_wp2_with fail
  rw [show w.heap.size + 1 + 1 + 1 = Wc.heap.size by rw [HE3.out]]
  refine (HP.out).mono ?_
  rintro e w1 ⟨nv, dv, sv, rfl, hown, hb1⟩
  have hAL := hal3.size
  have hRB2 : RB < (Wc.alloc (.cells #[.int .i64 o.kind, .string (str o.name), .string (str o.to), .string (str o.text)] 27)).heap.size := Nat.lt_of_lt_of_le hRw hAL
  have q := HR.out.next hb1
  obtain ⟨p1, p2, p3⟩ := store3 q hown (show w.heap.size ≤ RB by omega) hRB2 ((hal.trans (hal3.mono hal.size)).trans (hb1.mono (Nat.le_trans hal.size hAL)))
  obtain ⟨z0, z1, z2⟩ := p3.three
  obtain ⟨a0, a1, a2⟩ := q.three
  have b0 := q.free 0
  have b1 := q.free 1
  have b2 := q.free 2
  obtain ⟨p9, q1, q2, q3, -⟩ := hown.fss
  subst q1; subst q2; subst q3
  have HO1 := Lib.hid p1
  have HO2 := Lib.hid p2
  have hRB3 : w.heap.size + 1 + 1 = RB := by omega
  rw [← hRB]
  clear p1 p2 p3 q hown hRB t0 t1 t2 o0 o1 o2 o3
  go_wp2_with fail
  refine bodyPost_ret (v := .tuple #[.agg #[.slice p9.an R.1.nodes.length p9.cn, .slice p9.ad R.1.dir.length p9.cd, .slice p9.ay R.1.syn.length p9.cy], .int .i64 R.2]) (by simp [results, Try.results9, go_sem, z0, z1, z2]) rfl ?_
  exact ⟨_, _, _, rfl, HO1.out, HO2.out⟩
end Go.Proofs.Ytmjcdjekakaigaa.Fs
