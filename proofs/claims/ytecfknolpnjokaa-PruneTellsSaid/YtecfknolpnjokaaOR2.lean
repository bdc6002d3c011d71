/- The walks of hypostyleref.CondCheck, condBegin. -/
import Derived.Test.YtecfknolpnjokaaOR1
namespace Go.Proofs.Ytecfknolpnjokaa
open Go.RowKit
set_option linter.unusedVariables false

set_option maxHeartbeats 4000000 in
set_option maxRecDepth 100000 in
theorem ccheck_any (ap : Option Addr) (cp : Nat) (p : List O.Cd) (a : Option Addr) (cap : Nat) (ks : List Int) (w : World) (hpm : p.length ≤ maxLen) (hpx : ∀ x ∈ p, dOk x) (hpu : Cds w w.heap.size ap p) (hk64 : ∀ k ∈ ks, -9223372036854775808 ≤ k ∧ k ≤ 9223372036854775807) (hm : ks.length ≤ maxLen) (hu : Ints w w.heap.size a ks) :
    Calls Try.prog 12 #[.slice ap p.length cp, .slice a ks.length cap] w (CErrPost (O.check p ks) w) := by
  have hpm' := hpm
  unfold maxLen at hpm'
  by_cases h16 : 16 < p.length
  · have hR : O.check p ks = 2 := by unfold O.check; rw [if_pos h16]
    have g3 : decide ((16 : Int) < (p.length : Int)) = true := decide_eq_true (by omega)
    rw [hR]
    clear hpx hpu hu hR
    go_enter Try.func12, Try.ntmps12
    go_wp2_with fail
    go_ret
    exact ⟨rfl, Below.refl _ _⟩
  have hR : O.check p ks = O.chk ks 0 (p.drop 0) := by unfold O.check; rw [if_neg h16]; rfl
  obtain ⟨R, hRR⟩ : ∃ R, R = O.check p ks := ⟨_, rfl⟩
  rw [← hRR] at hR ⊢
  have HR0 := Lib.hid hR
  have g3 : decide ((16 : Int) < (p.length : Int)) = false := decide_eq_false (by omega)
  have HSTEP := Lib.hid (fun (j : Nat) (free : Nat) (h : j < p.length) => show O.chk ks free (p.drop j) = if O.alone ks (p.getD j O.nullC) ≠ 0 then O.alone ks (p.getD j O.nullC) else if free < O.parts (p.getD j O.nullC).op then 1 else O.chk ks (free + 1 - O.parts (p.getD j O.nullC).op) (p.drop (j + 1)) by
    rw [List.drop_eq_getElem_cons h, O.chk]
    simp only [List.getD, List.getElem?_eq_getElem h, Option.getD_some]
    unfold O.nodeE
    by_cases q1 : O.alone ks p[j] ≠ 0
    · rw [if_pos q1, if_pos q1, if_pos q1]
    · rw [if_neg q1, if_neg q1]
      by_cases q2 : free < O.parts p[j].op
      · rw [if_pos q2, if_pos (by omega), if_pos q2]
      · rw [if_neg q2, if_neg (by omega), if_neg q2])
  have HX := Lib.hid (fun (j : Nat) (h : j < p.length) => show dOk (p.getD j O.nullC) by
    simp only [List.getD, List.getElem?_eq_getElem h, Option.getD_some]; exact hpx _ (List.getElem_mem h))
  have HN := Lib.hid (fun (c : O.Cd) (hc : dOk c) W (hb : Below w.heap.size w W) => calone_any c a cap ks W hc hk64 hm (hu.next at1_firm hb))
  have hpu' : ∀ W, Below w.heap.size w W → ∀ j, j < p.length → ∃ b off, ap = some ⟨b, off, none⟩ ∧ at5 W b (off + j * 5) (p.getD j O.nullC) := by
    intro W hb j hj
    obtain ⟨b, off, e, _, hc⟩ := hpu.next at5_firm hb (by intro e; rw [e] at hj; simp at hj)
    exact ⟨b, off, e, hc j hj⟩
  have HPU := Lib.hid hpu'
  have HAN := Lib.hid (fun c => O.alone_node (ks := ks) (c := c))
  clear hpu' hpu hu hpx hm hR hRR hk64
  go_enter Try.func12, Try.ntmps12
  go_wp2_with fail
  go_loopw [5, 6] (fun u i wr => ∃ j f : Nat, j ≤ p.length ∧ f ≤ 2 * j ∧ u = .int .i64 f ∧ i = .int .i64 j ∧ Below w.heap.size w wr ∧ Hid (R = O.chk ks f (p.drop j))) (fun _ i _ => p.length - (intOf i).toNat)
  case atStart => exact ⟨0, 0, by omega, by omega, rfl, rfl, Below.refl _ _, HR0⟩
  case round =>
    obtain ⟨j, f, hj, hf, rfl, rfl, hb, HJ⟩ := hrel
    by_cases hlt : j < p.length
    · have hjI : (j : Int) < (p.length : Int) := by omega
      obtain ⟨b, off, rfl, c0, c1, c2, c3, c4⟩ := HPU.out wr hb j hlt
      have hst := HSTEP.out j f hlt
      have hx := HX.out j hlt
      have hE := O.alone_lt ks (p.getD j O.nullC)
      have hAN := HAN.out (p.getD j O.nullC)
      have HPJ := Lib.hid (fun W (h : Below w.heap.size w W) => HPU.out W h j hlt)
      generalize p.getD j O.nullC = x at *
      have HND := Lib.hid (HN.out x hx wr hb)
      have HPA := Lib.hid (fun W => csize_any x.op W)
      have hpl := O.parts_le x.op
      have hcz : (1 ≤ x.op ∧ x.op ≤ 7) → csz x.op = (O.parts x.op : Nat) := fun h => by unfold csz; rw [if_neg (by omega)]
      have HJ2 := Lib.hid (HJ.out.trans hst)
      unfold dag at HND
      obtain ⟨er, her⟩ : ∃ er, er = O.alone ks x := ⟨_, rfl⟩
      rw [← her] at hE HND HJ2 hAN
      have HC0 := Lib.hid (fun W (h : Below w.heap.size w W) => show W.cell? ⟨b, off + j * 5, none⟩ = some (.int .i64 x.op) by
        obtain ⟨b', off', e, h0, _⟩ := HPJ.out W h
        have e' := Option.some.inj e
        obtain ⟨rfl, rfl⟩ : b = b' ∧ off = off' := by simpa using e'
        exact h0)
      clear her hst HJ hx HPJ
      generalize O.parts x.op = m at *
      generalize csz x.op = cz at *
      generalize str x.c.txt = X at *
      generalize x.c.num = xn at *
      generalize x.c.kind = xk at *
      generalize x.op = xo at *
      generalize x.col = xc at *
      by_cases he : er = 0
      · have hcz2 := hcz (hAN he)
        subst hcz2
        subst he
        clear hAN hcz
        by_cases hfm : f < m
        · have HRE := Lib.hid (show R = 1 by rw [HJ2.out, if_neg (by simp), if_pos hfm])
          have g4 : decide ((f : Int) < (m : Int)) = true := decide_eq_true (by omega)
          have g5 : decide (f < m) = true := decide_eq_true hfm
          go_wp2_with fail
          refine HND.out.mono ?_
          rintro e w1 ⟨rfl, hb2⟩
          have d0 := HC0.out _ (below_then hb hb2)
          go_wp2_with fail
          refine (HPA.out _).mono ?_
          rintro e w2 ⟨rfl, rfl⟩
          go_wp2_with fail
          go_ret
          exact ⟨by rw [HRE.out]; rfl, below_then hb hb2⟩
        · have HN1 := Lib.hid (show R = O.chk ks (f + 1 - m) (p.drop (j + 1)) by rw [HJ2.out, if_neg (by simp), if_neg hfm])
          have g4 : decide ((f : Int) < (m : Int)) = false := decide_eq_false (by omega)
          have g5 : decide (f < m) = false := decide_eq_false hfm
          have hw1 : IntKind.i64.wrap ((f : Int) - (m : Int)) = (f : Int) - (m : Int) := by rw [IntKind.wrap_i64]; omega
          have hw2 : IntKind.i64.wrap ((f : Int) - (m : Int) + 1) = ((f + 1 - m : Nat) : Int) := by rw [IntKind.wrap_i64]; omega
          go_wp2_with fail
          refine HND.out.mono ?_
          rintro e w1 ⟨rfl, hb2⟩
          have d0 := HC0.out _ (below_then hb hb2)
          go_wp2_with fail
          refine (HPA.out _).mono ?_
          rintro e w2 ⟨rfl, rfl⟩
          go_wp2_with fail
          refine (HPA.out _).mono ?_
          rintro e w2 ⟨rfl, rfl⟩
          go_wp2_with fail
          exact ⟨⟨j + 1, f + 1 - m, by omega, by omega, by first | rfl | (rw [hw1, hw2]) | (rw [hw2]), by go_num, below_then hb hb2, HN1⟩, by simp [intOf]; omega⟩
      · have HRE := Lib.hid (show R = er by rw [HJ2.out, if_pos he])
        have g1 : ((er : Int) != 0) = true := by rw [bne_iff_ne]; omega
        clear hAN hcz
        go_wp2_with fail
        refine HND.out.mono ?_
        rintro e w1 ⟨rfl, hb2⟩
        go_wp2_with fail
        go_ret
        exact ⟨by rw [HRE.out]; rfl, below_then hb hb2⟩
    · obtain rfl : j = p.length := by omega
      have HRE := Lib.hid (show R = if f ≠ 1 then 1 else 0 by rw [HJ.out, List.drop_length]; rfl)
      by_cases hf1 : f = 1
      · subst hf1
        have HRE := Lib.hid (show R = 0 by rw [HRE.out, if_neg (by simp)])
        go_wp2_with fail
        go_ret
        exact ⟨by rw [HRE.out]; rfl, hb⟩
      · have HRE := Lib.hid (show R = 1 by rw [HRE.out, if_pos hf1])
        have g1 : ((f : Int) != 1) = true := by rw [bne_iff_ne]; omega
        go_wp2_with fail
        go_ret
        exact ⟨by rw [HRE.out]; rfl, hb⟩

set_option maxHeartbeats 4000000 in
set_option maxRecDepth 100000 in
theorem begin_core (b off n cp e m : Nat) (c : O.Cd) (pos : Nat → Nat) (w : World) (hlt : b < w.heap.size) (he : 1 ≤ e) (hen : e ≤ n) (hn : n ≤ maxLen) (hc : at5 w b (off + (e - 1) * 5) c) (hop : 1 ≤ c.op ∧ c.op ≤ 7) (hpm : O.parts c.op = m) (hp0 : pos 0 = e - 1)
    (HR : ∀ W, Below w.heap.size w W → ∀ k, k < m → Calls Try.prog 55 #[.slice (some ⟨b, off, none⟩) n cp, .int .i64 (pos k : Nat)] W (fun e w' => e = .returned (.int .i64 (pos (k + 1) : Nat)) ∧ Below W.heap.size W w')) :
    Calls Try.prog 55 #[.slice (some ⟨b, off, none⟩) n cp, .int .i64 (e : Nat)] w (CErrPost (pos m) w) := by
  have HS := Lib.hid (fun W => show Calls Try.prog 36 #[.int .i64 c.op] W (ValPost (.int .i64 (m : Nat)) W) by
    have h := csize_any c.op W; unfold csz at h; rwa [if_neg (by omega), hpm] at h)
  obtain ⟨l, hl⟩ : ∃ l, l = e - 1 := ⟨_, rfl⟩
  have HC := Lib.hid (fun W (h : Below w.heap.size w W) => show W.cell? ⟨b, off + l * 5, none⟩ = some (.int .i64 c.op) by
    rw [hl]; exact (h.cell (p := ⟨b, off + (e - 1) * 5, none⟩) hlt).trans hc.1)
  have HR := Lib.hid HR
  have HP0 := Lib.hid (show pos 0 = l by rw [hl]; exact hp0)
  unfold maxLen at hn
  have hw1 : IntKind.i64.wrap ((e : Int) - 1) = (l : Int) := by rw [IntKind.wrap_i64]; omega
  have hlI : (l : Int) < (n : Int) := by omega
  have hm2 : m ≤ 2 := by rw [← hpm]; exact O.parts_le _
  generalize c.op = op at *
  clear hc hl hpm hp0 hop
  go_enter Try.func55, Try.ntmps55
  go_wp2_with fail
  go_loopw [5, 6] (fun u i wr => ∃ k : Nat, k ≤ m ∧ u = .int .i64 (pos k : Nat) ∧ i = .int .i64 k ∧ Below w.heap.size w wr) (fun _ i _ => m - (intOf i).toNat)
  case atStart => exact ⟨0, by omega, by rw [HP0.out], rfl, Below.refl _ _⟩
  case round =>
    obtain ⟨k, hk, rfl, rfl, hb⟩ := hrel
    have c0 := HC.out wr hb
    by_cases hlt2 : k < m
    · have HRR := Lib.hid (HR.out wr hb k hlt2)
      have g4 : decide ((k : Int) < (m : Int)) = true := decide_eq_true (by omega)
      have g5 : decide (k < m) = true := decide_eq_true hlt2
      generalize pos k = q1 at *
      generalize hq2 : pos (k + 1) = q2 at *
      have HQ := Lib.hid hq2
      clear hq2
      go_wp2_with fail
      refine (HS.out _).mono ?_
      rintro e w1 ⟨rfl, rfl⟩
      go_wp2_with fail
      refine HRR.out.mono ?_
      rintro e w1 ⟨rfl, hb2⟩
      go_wp2_with fail
      exact ⟨⟨k + 1, by omega, by rw [HQ.out], by go_num, below_then hb hb2⟩, by simp [intOf]; omega⟩
    · obtain rfl : k = m := by omega
      have g4 : decide ((k : Int) < (k : Int)) = false := decide_eq_false (by omega)
      go_wp2_with fail
      refine (HS.out _).mono ?_
      rintro e w1 ⟨rfl, rfl⟩
      go_wp2_with fail
      go_ret
      exact ⟨rfl, hb⟩

theorem begin_any (ks : List Int) (b off n cp : Nat) : ∀ (t : O.T), O.ok ks t → ∀ (pre rest : List O.Cd) (w : World), pre.length + (O.flat t).length + rest.length = n → n ≤ maxLen → b < w.heap.size →
    (∀ i, i < n → at5 w b (off + i * 5) ((pre ++ O.flat t ++ rest).getD i O.nullC)) →
    Calls Try.prog 55 #[.slice (some ⟨b, off, none⟩) n cp, .int .i64 ((pre.length + (O.flat t).length : Nat) : Int)] w (CErrPost pre.length w)
  | .leaf c, h, pre, rest, w, hl, hn, hlt, hc => by
    refine begin_core b off n cp _ 0 c (fun _ => pre.length) w hlt (by simp [O.flat]) (by omega) hn ?_ (O.alone_node h.2) h.1 (by simp [O.flat]) (fun W hb k hk => by omega)
    have := hc pre.length (by simp [O.flat] at hl; omega)
    simp [O.flat] at this ⊢
    exact this
  | .one c t, h, pre, rest, w, hl, hn, hlt, hc => by
    have hfl : (O.flat (.one c t)).length = (O.flat t).length + 1 := by simp [O.flat]
    have hcc : ∀ i, i < n → at5 w b (off + i * 5) ((pre ++ O.flat t ++ (c :: rest)).getD i O.nullC) := fun i hi => by
      have := hc i hi
      rwa [show pre ++ O.flat (.one c t) ++ rest = pre ++ O.flat t ++ (c :: rest) by simp [O.flat]] at this
    have h1 := fun W (hb : Below w.heap.size w W) => begin_any ks b off n cp t h.2.2 pre (c :: rest) W (by simp; omega) hn (by have := hb.size; omega) (fun i hi => at5_firm w W b _ _ (fun j => hb.cell (p := ⟨b, j, none⟩) hlt) (hcc i hi))
    refine begin_core b off n cp _ 1 c (fun k => if k = 0 then pre.length + (O.flat t).length else pre.length) w hlt (by omega) (by omega) hn ?_ (O.alone_node h.2.1) h.1 (by show pre.length + (O.flat t).length = pre.length + (O.flat (.one c t)).length - 1; omega) (fun W hb k hk => by
      obtain rfl : k = 0 := by omega
      exact h1 W hb)
    have := hcc (pre.length + (O.flat t).length) (by omega)
    rw [show (pre ++ O.flat t ++ (c :: rest)).getD (pre.length + (O.flat t).length) O.nullC = c by simp [List.getD]] at this
    rw [show pre.length + (O.flat (.one c t)).length - 1 = pre.length + (O.flat t).length by omega]
    exact this
  | .two c t u, h, pre, rest, w, hl, hn, hlt, hc => by
    have hfl : (O.flat (.two c t u)).length = (O.flat t).length + (O.flat u).length + 1 := by simp [O.flat]; omega
    have hcc : ∀ i, i < n → at5 w b (off + i * 5) ((pre ++ O.flat t ++ O.flat u ++ (c :: rest)).getD i O.nullC) := fun i hi => by
      have := hc i hi
      rwa [show pre ++ O.flat (.two c t u) ++ rest = pre ++ O.flat t ++ O.flat u ++ (c :: rest) by simp [O.flat]] at this
    have h1 := fun W (hb : Below w.heap.size w W) => begin_any ks b off n cp u h.2.2.2 (pre ++ O.flat t) (c :: rest) W (by simp; omega) hn (by have := hb.size; omega) (fun i hi => at5_firm w W b _ _ (fun j => hb.cell (p := ⟨b, j, none⟩) hlt) (hcc i hi))
    have h2 := fun W (hb : Below w.heap.size w W) => begin_any ks b off n cp t h.2.2.1 pre (O.flat u ++ (c :: rest)) W (by simp; omega) hn (by have := hb.size; omega) (fun i hi => at5_firm w W b _ _ (fun j => hb.cell (p := ⟨b, j, none⟩) hlt) (by
      have := hcc i hi
      rwa [show pre ++ O.flat t ++ O.flat u ++ (c :: rest) = pre ++ O.flat t ++ (O.flat u ++ (c :: rest)) by simp] at this))
    refine begin_core b off n cp _ 2 c (fun k => if k = 0 then pre.length + (O.flat t).length + (O.flat u).length else if k = 1 then pre.length + (O.flat t).length else pre.length) w hlt (by omega) (by omega) hn ?_ (O.alone_node h.2.1) h.1 (by show pre.length + (O.flat t).length + (O.flat u).length = pre.length + (O.flat (.two c t u)).length - 1; omega) (fun W hb k hk => by
      have hk2 : k = 0 ∨ k = 1 := by omega
      rcases hk2 with rfl | rfl
      · have := h1 W hb
        rw [List.length_append] at this
        exact this
      · exact h2 W hb)
    have := hcc (pre.length + (O.flat t).length + (O.flat u).length) (by omega)
    rw [show (pre ++ O.flat t ++ O.flat u ++ (c :: rest)).getD (pre.length + (O.flat t).length + (O.flat u).length) O.nullC = c by
      simp only [List.getD]
      rw [List.getElem?_append_right (by simp; omega)]
      simp [Nat.add_assoc]] at this
    rw [show pre.length + (O.flat (.two c t u)).length - 1 = pre.length + (O.flat t).length + (O.flat u).length by omega]
    exact this
end Go.Proofs.Ytecfknolpnjokaa
