/- The walks of pred.each and pred.along, as Prune uses them. -/
import Derived.Test.YtecfknolpnjokaaOW4
import Derived.Deep.AppendLies
import Derived.Deep.RegionLaw
namespace Go.Proofs.Ytecfknolpnjokaa
open Go.RowKit
set_option linter.unusedVariables false


set_option maxHeartbeats 1000000 in
set_option maxRecDepth 100000 in
theorem each_prune (Kb Rb : Nat) (a : Option Addr) (n cap : Nat) (e : Nat → Nat) (he : ∀ j, e j < 4294967296) (w : World) (hm : n ≤ maxLen)
    (HF : ∀ W, Below w.heap.size w W → ∀ j, j < n → Calls Try.prog 37 #[.int .i64 j, .pointer (some ⟨Kb, 0, none⟩), .pointer (some ⟨Rb, 0, none⟩)] W (CErrPost (e j) W)) :
    Calls Try.prog 20 #[.slice a n cap, .func (.func 37) #[] #[.pointer (some ⟨Kb, 0, none⟩), .pointer (some ⟨Rb, 0, none⟩)]] w (CErrPost (firE e 0 n) w) := by
  unfold maxLen at hm
  obtain ⟨R, hR⟩ : ∃ R, R = firE e 0 n := ⟨_, rfl⟩
  rw [← hR]
  have HR0 := Lib.hid (show R = firE e 0 (n - 0) by rw [hR, Nat.sub_zero])
  have HS := Lib.hid (fun j k => show firE e j (k + 1) = if e j ≠ 0 then e j else firE e (j + 1) k from rfl)
  have HF := Lib.hid HF
  clear hR
  go_enter Try.func20, Try.ntmps20
  go_wp2_with fail
  go_loopw [9] (fun i wr => ∃ j : Nat, j ≤ n ∧ i = .int .i64 j ∧ Below w.heap.size w wr ∧ Hid (R = firE e j (n - j))) (fun i _ => n - (intOf i).toNat)
  case atStart => exact ⟨0, by omega, rfl, Below.refl _ _, HR0⟩
  case round =>
    obtain ⟨j, hj, rfl, hb, HJ⟩ := hrel
    by_cases hlt : j < n
    · have HC := Lib.hid (HF.out wr hb j hlt)
      have hst := HS.out j (n - (j + 1))
      rw [show n - (j + 1) + 1 = n - j by omega] at hst
      have HJ2 := Lib.hid (HJ.out.trans hst)
      have hlt2 := he j
      clear hst HJ
      generalize e j = er at *
      by_cases h0 : er = 0
      · subst h0
        have HN := Lib.hid (show R = firE e (j + 1) (n - (j + 1)) by rw [HJ2.out, if_neg (by simp)])
        go_wp2_with fail
        refine HC.out.mono ?_
        rintro e w1 ⟨rfl, hb1⟩
        go_wp2_with fail
        exact ⟨⟨j + 1, by omega, by go_num, below_then hb hb1, HN⟩, by simp [intOf]; omega⟩
      · have HN := Lib.hid (show R = er by rw [HJ2.out, if_pos h0])
        have g1 : ((er : Int) != 0) = true := by rw [bne_iff_ne]; omega
        go_wp2_with fail
        refine HC.out.mono ?_
        rintro e w1 ⟨rfl, hb1⟩
        go_wp2_with fail
        go_ret
        exact ⟨by rw [HN.out]; rfl, below_then hb hb1⟩
    · obtain rfl : j = n := by omega
      have HN := Lib.hid (show R = 0 by rw [HJ.out, Nat.sub_self]; rfl)
      go_wp2_with fail
      go_ret
      exact ⟨by rw [HN.out]; rfl, hb⟩

/-- a row of whole numbers, of pred.set -/
def SeRow (B : Nat) (xs : List Nat) (v : Value) (wr : World) : Prop := wr.ownsRow B 72 1 v xs.length (iv xs)
theorem info_prune : (Try.prog.info? 72).map (fun i => (i.zero, i.size, i.bytes)) = some (some (.int .i64 0), 1, 8) := by kernel_rfl
theorem SeRow.form {B : Nat} {xs : List Nat} {v : Value} {w : World} (h : SeRow B xs v w) (hn : 0 < xs.length) : ∃ g cap, v = .slice (some ⟨g, 0, none⟩) xs.length cap ∧ xs.length ≤ cap ∧ cap ≤ maxLen ∧ (∀ i, i < xs.length → w.cell? ⟨g, i, none⟩ = some (.int .i64 (xs.getD i 0 : Nat))) ∧ g < w.heap.size := by
  unfold SeRow at h
  rcases h.2 with ⟨_, h0⟩ | ⟨g, cap, cur, rfl, e2, e3, e4, e5, _⟩
  · omega
  · refine ⟨g, cap, rfl, e4, e5, fun i hi => ?_, lt_of_block e3⟩
    rw [h.cellAt i (by omega)]
    simp [iv, List.getD, List.getElem?_eq_getElem hi]
theorem SeRow.cut {B : Nat} {xs : List Nat} {g n cap : Nat} {w : World} (h : SeRow B xs (.slice (some ⟨g, 0, none⟩) n cap) w) (k : Nat) (hk : k ≤ xs.length) : SeRow B (xs.take k) (.slice (some ⟨g, 0, none⟩) k cap) w := by
  unfold SeRow at *
  obtain ⟨h1, h2⟩ := h
  have hlen : (xs.take k).length = k := by rw [List.length_take]; omega
  rcases h2 with ⟨h0, _⟩ | ⟨g', cap', cur, e1, e2, e3, e4, e5, e6, e7⟩
  · cases h0
  · have hs : g = g' ∧ n = xs.length ∧ cap = cap' := by simpa using e1
    obtain ⟨rfl, rfl, rfl⟩ := hs
    rw [hlen]
    refine ⟨by simp [iv]; omega, Or.inr ⟨g, cap, cur, rfl, e2, e3, by omega, e5, e6, ?_⟩⟩
    have := congrArg (List.take k) e7
    rw [List.take_take] at this
    rw [show min k (xs.length * 1) = k * 1 by omega] at this
    rw [this]; simp [iv]
theorem wpList_append_prune {w : World} {ops : Array Oper} {rest : List Oper} {o : Oper} {a : Act} {Q : Exit → Act → World → Prop} (hgd : o.guard = none) (s x : Operand)
    (ho : o.op = .call { callee := .builtin .append, args := #[s, x], argTypes := #[96, 96] }) (base : Nat)
    (v : Value) (xs : List Nat) (hs : a.eval s = v) (hown : SeRow base xs v w)
    (g : Nat) (y : Nat) (hx : a.eval x = .slice (some ⟨g, 0, none⟩) 1 1) (hc : w.cell? ⟨g, 0, none⟩ = some (.int .i64 (y : Int)))
    (hbytes : (xs.length + 1) * 8 ≤ 140737488355328) (hbase : base ≤ w.heap.size)
    (h : ∀ v' w', SeRow base (xs ++ [y]) v' w' → Below base w w' → wpList Try.prog ops Q rest (a.put o.dst v') w') : wpList Try.prog ops Q (o :: rest) a w := by
  obtain ⟨i, hi, hz0, hz1, hz2⟩ := info_parts info_prune
  refine wpList_append_own w hgd s x 96 ho base 72 i (.int .i64 0) 1 8 Try.underlying96 hi hz0 hz1 hz2 rfl (by decide) v xs.length (iv xs) hs hown ⟨g, 0, none⟩ 1 1 [.int .i64 (y : Int)] hx rfl ?_ ?_ (by unfold maxLen; omega) hbytes hbase (fun v' w' h1 h2 _ => h v' w' ?_ ?_)
  · intro j u hj
    match j, hj with
    | 0, hj => simp at hj; subst hj; simpa [Addr.add] using hc
  · intro u hu; simp at hu; subst hu; rfl
  · unfold SeRow; rw [List.length_append]; simpa [iv] using h1
  · exact (Below.refl base w).grown h2 hbase (fun k hk => (hown.lt k hk).1)
theorem step_append_prune {w : World} {ops : Array Oper} {o : Oper} {a : Act} {K : Act → World → Prop} {Q : Exit → Act → World → Prop} {E : Prop} (hgd : o.guard = none) (s x : Operand)
    (ho : o.op = .call { callee := .builtin .append, args := #[s, x], argTypes := #[96, 96] }) (base : Nat)
    (v : Value) (xs : List Nat) (hs : a.eval s = v) (hown : SeRow base xs v w)
    (g : Nat) (y : Nat) (hx : a.eval x = .slice (some ⟨g, 0, none⟩) 1 1) (hc : w.cell? ⟨g, 0, none⟩ = some (.int .i64 (y : Int)))
    (hbytes : (xs.length + 1) * 8 ≤ 140737488355328) (hbase : base ≤ w.heap.size)
    (h : ∀ v' w', SeRow base (xs ++ [y]) v' w' → Below base w w' → K (a.put o.dst v') w') :
    if Region.wanted o (yielded ops a.tmps) = true then Oper.wp Try.prog o a w K Q else E := by
  obtain ⟨i, hi, hz0, hz1, hz2⟩ := info_parts info_prune
  refine step_append_lies w hgd s x 96 ho base 72 i (.int .i64 0) 1 8 Try.underlying96 hi hz0 hz1 hz2 rfl (by decide) v xs.length (iv xs) hs hown ⟨g, 0, none⟩ 1 1 [.int .i64 (y : Int)] hx rfl ?_ ?_ (by decide) (by unfold maxLen; omega) hbytes hbase _ rfl ?_
  · intro j u hj
    match j, hj with
    | 0, hj => simp at hj; subst hj; simpa [Addr.add] using hc
  · intro u hu; simp at hu; subst hu; rfl
  · intro g' cap w' h1 h2 h3 h4
    refine h _ w' ?_ ?_
    · unfold SeRow; rw [List.length_append]; simpa [iv] using h1
    · exact (Below.refl base w).grown h2 hbase (fun k hk => (hown.lt k hk).1)
theorem SeRow.below {B : Nat} {xs : List Nat} {v : Value} {w w' : World} (h : SeRow B xs v w) (hb : Below w.heap.size w w') : SeRow B xs v w' := row_below h hb

set_option maxHeartbeats 2000000 in
set_option maxRecDepth 100000 in
theorem along_prune (Kb Rb : Nat) (ap : Option Addr) (cp : Nat) (p : List O.Cd) (ask : O.Cd → Nat) (bnd : Nat) (hbnd : bnd < 4294967296) (hask : ∀ c, ask c ≤ bnd) (hjo : ∀ op a b, a ≤ bnd → b ≤ bnd → O.joS op a b ≤ bnd) (w : World)
    (h16 : p.length ≤ 16) (hpx : ∀ x ∈ p, dOk x) (hpu : Cds w w.heap.size ap p) (hfree : ∀ j, j < p.length → O.parts (p.getD j O.nullC).op ≤ (O.run ask O.joS [] (p.take j)).length) (hend : (O.run ask O.joS [] p).length = 1)
    (HA : ∀ W, Below w.heap.size w W → ∀ j, j < p.length → O.parts (p.getD j O.nullC).op = 0 → Calls Try.prog 40 #[dag (p.getD j O.nullC), .pointer (some ⟨Kb, 0, none⟩), .pointer (some ⟨Rb, 0, none⟩)] W (CErrPost (ask (p.getD j O.nullC)) W))
    (HJ : ∀ W op a b, a ≤ bnd → b ≤ bnd → Calls Try.prog 42 #[.int .i64 op, .int .i64 a, .int .i64 b] W (ValPost (.int .i64 (O.joS op a b : Nat)) W)) :
    Calls Try.prog 39 #[.slice ap p.length cp, .func (.func 40) #[] #[.pointer (some ⟨Kb, 0, none⟩), .pointer (some ⟨Rb, 0, none⟩)], .func (.func 42) #[] #[]] w (CErrPost ((O.run ask O.joS [] p).getD 0 0) w) := by
  obtain ⟨st, hst⟩ : ∃ st : Nat → List Nat, st = fun j => O.run ask O.joS [] (p.take j) := ⟨_, rfl⟩
  have hst0 : st 0 = [] := by rw [hst]; rfl
  have hstp : ∀ j, j < p.length → st (j + 1) = O.step ask O.joS (st j) (p.getD j O.nullC) := by
    intro j hj
    rw [hst]
    simp only
    rw [List.take_succ_eq_append_getElem hj, O.run_snoc]
    simp only [List.getD, List.getElem?_eq_getElem hj, Option.getD_some]
  have hstl : st p.length = O.run ask O.joS [] p := by rw [hst]; simp
  have hfr : ∀ j, j < p.length → O.parts (p.getD j O.nullC).op ≤ (st j).length := by intro j hj; rw [hst]; exact hfree j hj
  rw [← hstl] at hend ⊢
  clear hst hstl hfree
  have hle : ∀ j, j ≤ p.length → (st j).length ≤ j ∧ ∀ x ∈ st j, x ≤ bnd := by
    intro j
    induction j with
    | zero => intro _; rw [hst0]; simp
    | succ j ih =>
      intro hj
      obtain ⟨i1, i2⟩ := ih (by omega)
      have hf := hfr j (by omega)
      rw [hstp j (by omega)]
      refine ⟨by rw [O.run_len _ _ _ _ hf]; omega, fun x hx => ?_⟩
      unfold O.step at hx
      have hg : ∀ i, (st j).getD i 0 ≤ bnd := by
        intro i
        by_cases hi : i < (st j).length
        · simp only [List.getD, List.getElem?_eq_getElem hi, Option.getD_some]; exact i2 _ (List.getElem_mem hi)
        · simp only [List.getD, List.getElem?_eq_none (by omega : (st j).length ≤ i), Option.getD_none]; omega
      split at hx
      · rcases List.mem_append.1 hx with hx | hx
        · exact i2 x hx
        · rw [List.mem_singleton.1 hx]; exact hask _
      · rcases List.mem_append.1 hx with hx | hx
        · exact i2 x (List.mem_of_mem_take hx)
        · rw [List.mem_singleton.1 hx]; exact hjo _ _ _ (hg _) (hg _)
  have hpu' : ∀ W, Below w.heap.size w W → ∀ j, j < p.length → ∃ b off, ap = some ⟨b, off, none⟩ ∧ at5 W b (off + j * 5) (p.getD j O.nullC) := by
    intro W hb j hj
    obtain ⟨b, off, e, _, hc⟩ := hpu.next at5_firm hb (by intro e; rw [e] at hj; simp at hj)
    exact ⟨b, off, e, hc j hj⟩
  have HPU := Lib.hid hpu'
  have HLE := Lib.hid hle
  have HSTP := Lib.hid hstp
  have HFR := Lib.hid hfr
  have HA := Lib.hid HA
  have HJ := Lib.hid HJ
  have HST0 := Lib.hid hst0
  have HEND := Lib.hid hend
  have HG : Hid (∀ j i, j ≤ p.length → i < (st j).length → (st j).getD i 0 ≤ bnd) := Lib.hid (fun j i hj hi => by
    simp only [List.getD, List.getElem?_eq_getElem hi, Option.getD_some]; exact (HLE.out j hj).2 _ (List.getElem_mem hi))
  clear hpu' hle hstp hfr hst0 hend hpu hpx
  go_enter Try.func39, Try.ntmps39
  go_wp2_with fail
  go_loopw [7, 14] (fun u i wr => ∃ j : Nat, j ≤ p.length ∧ i = .int .i64 j ∧ Below w.heap.size w wr ∧ SeRow w.heap.size (st j) u wr) (fun _ i _ => p.length - (intOf i).toNat)
  case atStart => exact ⟨0, by omega, rfl, Below.refl _ _, by rw [HST0.out]; exact ⟨rfl, Or.inl ⟨rfl, rfl⟩⟩⟩
  case round =>
    obtain ⟨j, hj, rfl, hb, hrow⟩ := hrel
    by_cases hlt : j < p.length
    · obtain ⟨b, off, rfl, c0, c1, c2, c3, c4⟩ := HPU.out wr hb j hlt
      have hst := HSTP.out j hlt
      have hfj := HFR.out j hlt
      obtain ⟨hl1, hl2⟩ := HLE.out j hj
      have HAJ := Lib.hid (fun W (h : Below w.heap.size w W) => HA.out W h j hlt)
      have hGJ := HG.out j
      generalize p.getD j O.nullC = x at *
      have hb1 : Below w.heap.size w (wr.alloc (.cells #[.int .i64 x.op, .int .i64 x.col, .int .i64 x.c.kind, .int .u64 (x.c.num : Int), .string (str x.c.txt)] 51)) := hb.alloc hb.size _
      have hp := pen_new wr (.int .i64 x.op) (.int .i64 x.col) (.int .i64 x.c.kind) (.int .u64 (x.c.num : Int)) (.string (str x.c.txt))
      have hrow1 := hrow.below (show Below wr.heap.size wr (wr.alloc (.cells #[.int .i64 x.op, .int .i64 x.col, .int .i64 x.c.kind, .int .u64 (x.c.num : Int), .string (str x.c.txt)] 51)) from (Below.refl _ _).alloc (Nat.le_refl _) _)
      have HPA := Lib.hid (fun W => parts_any x.op W)
      have hpl := O.parts_le x.op
      have HHA := Lib.hid (fun (h0 : O.parts x.op = 0) => show Calls Try.prog 40 #[.agg #[.int .i64 x.op, .int .i64 x.col, .int .i64 x.c.kind, .int .u64 (x.c.num : Int), .string (str x.c.txt)], .pointer (some ⟨Kb, 0, none⟩), .pointer (some ⟨Rb, 0, none⟩)] (wr.alloc (.cells #[.int .i64 x.op, .int .i64 x.col, .int .i64 x.c.kind, .int .u64 (x.c.num : Int), .string (str x.c.txt)] 51)) (CErrPost (ask x) (wr.alloc (.cells #[.int .i64 x.op, .int .i64 x.col, .int .i64 x.c.kind, .int .u64 (x.c.num : Int), .string (str x.c.txt)] 51))) from HAJ.out _ hb1 h0)
      clear HAJ
      have hq := hask x
      unfold O.step at hst
      obtain ⟨q0, q1, q2, q3, q4⟩ := hp.all
      have HST := Lib.hid hst
      clear hst hp
      generalize O.parts x.op = m at *
      generalize ask x = aq at *
      generalize str x.c.txt = X at *
      generalize x.c.num = xn at *
      generalize x.c.kind = xk at *
      generalize x.op = xo at *
      generalize x.col = xc at *
      have hsz : (wr.alloc (.cells #[.int .i64 xo, .int .i64 xc, .int .i64 xk, .int .u64 (xn : Int), .string X] 51)).heap.size = wr.heap.size + 1 := by simp
      have HB1 := Lib.hid hb1
      have HROW1 := Lib.hid hrow1
      have HHS := Lib.hid hb.size
      by_cases h0 : m = 0
      · subst h0
        have HHB := Lib.hid (HHA.out rfl)
        clear HHA
        have HST := Lib.hid (show st (j + 1) = st j ++ [aq] by rw [HST.out, if_pos rfl])
        go_wp2_with fail
        refine (HPA.out _).mono ?_
        rintro e w1 ⟨rfl, rfl⟩
        go_wp2_with fail
        refine HHB.out.mono ?_
        rintro e w1 ⟨rfl, hb2⟩
        have hb3 := below_then HB1.out hb2
        have hr5 := (HROW1.out.below hb2).below (show Below w1.heap.size w1 (w1.alloc (.cells #[.int .i64 (aq : Int)] 72)) from (Below.refl _ _).alloc (Nat.le_refl _) _)
        have hb5 : w.heap.size ≤ (w1.alloc (.cells #[.int .i64 (aq : Int)] 72)).heap.size := by have := hb3.size; simp; omega
        have hlb : ((st j).length + 1) * 8 ≤ 140737488355328 := by omega
        have HR5 := Lib.hid hr5
        clear hr5 hrow hrow1 hGJ
        go_wp2_with (at_builtin; refine wpList_append_prune rfl (.tmp 23) (.tmp 27) rfl w.heap.size _ (st j) rfl HR5.out w1.heap.size aq rfl (World.cell?_alloc_new _ _ _ _) hlb hb5 ?_)
        intro v' w4 hr4 hb4
        go_wp2_with fail
        exact ⟨⟨j + 1, by omega, by go_num, (hb3.alloc hb3.size _).trans hb4, by rw [HST.out]; exact hr4⟩, by simp [intOf]; omega⟩
      · have HSU := Lib.hid (show st (j + 1) = (st j).take ((st j).length - m) ++ [O.joS xo ((st j).getD ((st j).length - m) 0) ((st j).getD ((st j).length - 1) 0)] by rw [HST.out, if_neg h0])
        clear HST
        obtain ⟨g, cap, rfl, hgc, hcm, hcells, hgl⟩ := HROW1.out.form (by omega)
        obtain ⟨fr, hfr⟩ : ∃ fr, fr = (st j).length - m := ⟨_, rfl⟩
        obtain ⟨la, hla⟩ : ∃ la, la = (st j).length - 1 := ⟨_, rfl⟩
        rw [← hfr, ← hla] at HSU
        have d1 := hcells fr (by omega)
        have d2 := hcells la (by omega)
        have hx1 := hGJ fr hj (by omega)
        have hx2 := hGJ la hj (by omega)
        have HCUT := Lib.hid (HROW1.out.cut fr (by omega))
        generalize (st j).getD fr 0 = A1 at *
        generalize (st j).getD la 0 = A2 at *
        have HHJ := Lib.hid (fun W => HJ.out W xo A1 A2 hx1 hx2)
        have hjj := hjo xo A1 A2 hx1 hx2
        generalize O.joS xo A1 A2 = jr at *
        have hw1 : IntKind.i64.wrap (((st j).length : Int) - (m : Int)) = (fr : Int) := by rw [IntKind.wrap_i64]; omega
        have hw2 : IntKind.i64.wrap (((st j).length : Int) - 1) = (la : Int) := by rw [IntKind.wrap_i64]; omega
        have g0 : ((m : Int) == 0) = false := by rw [beq_eq_false_iff_ne]; omega
        have g1 : (m == 0) = false := by rw [beq_eq_false_iff_ne]; omega
        have l1 : (fr : Int) < ((st j).length : Int) := by omega
        have l2 : (la : Int) < ((st j).length : Int) := by omega
        have l3 : (fr : Int) ≤ ((st j).length : Int) := by omega
        have l4 : (fr : Int) ≤ (cap : Int) := by omega
        have l5 : fr ≤ cap := by omega
        have hfl : ((st j).take fr).length = fr := by rw [List.length_take]; omega
        have hbig : (fr + 1) * 8 ≤ 140737488355328 := by omega
        have hnn : (st j).length ≤ 16 := by omega
        have HFL := Lib.hid hfl
        clear hcells hGJ hfr hla hl1 hl2 hx1 hx2 hgc hfl hrow hrow1 hfj
        generalize (st j).length = n1 at *
        unfold maxLen at hcm
        go_wp2_with fail
        refine (HPA.out _).mono ?_
        rintro e w1 ⟨rfl, rfl⟩
        go_wp2_with fail
        generalize hW0 : wr.alloc (.cells #[.int .i64 xo, .int .i64 xc, .int .i64 xk, .int .u64 (xn : Int), .string X] 51) = W0 at *
        clear hW0
        have HR5 := Lib.hid (show SeRow w.heap.size ((st j).take fr) (.slice (some ⟨g, 0, none⟩) fr cap) (W0.alloc (.cells #[.int .i64 (jr : Int)] 72)).drew from HCUT.out.below (w' := W0.alloc (.cells #[.int .i64 (jr : Int)] 72)) ((Below.refl _ _).alloc (Nat.le_refl _) _))
        have hb5 : w.heap.size ≤ (W0.alloc (.cells #[.int .i64 (jr : Int)] 72)).drew.heap.size := by have := HB1.out.size; simp; omega
        have hb6 := HB1.out.alloc HB1.out.size (.cells #[.int .i64 (jr : Int)] 72)
        have HB6 := Lib.hid hb6.drew
        have hlb : (((st j).take fr).length + 1) * 8 ≤ 140737488355328 := by rw [HFL.out]; exact hbig
        clear hgl hb1 HROW1 q1 q2 q3 q4 hsz hb6
        go_region_law (first
          | (go_simp; go_at_call 42; refine (HHJ.out _).mono ?_; rintro e w9 ⟨rfl, rfl⟩)
          | (refine step_append_prune rfl (.tmp 35) (.tmp 50) rfl w.heap.size _ ((st j).take fr) rfl HR5.out W0.heap.size jr rfl (by simp) hlb hb5 ?_; intro v' w4 hr4 hb4))
        all_goals
          go_wp2_with fail
          exact ⟨⟨j + 1, by omega, by go_num, HB6.out.trans hb4, by rw [HSU.out]; exact hr4⟩, by simp [intOf]; omega⟩
    · obtain rfl : j = p.length := by omega
      obtain ⟨g, cap, rfl, hgc, hcm, hcells, hgl⟩ := hrow.form (by rw [HEND.out]; omega)
      have hone := HEND.out
      have d1 := hcells 0 (by omega)
      have hz := HG.out p.length 0 hj (by omega)
      generalize (st p.length).getD 0 0 = A1 at *
      rw [hone] at *
      clear hone hcells
      go_wp2_with fail
      go_ret
      exact ⟨rfl, hb⟩
end Go.Proofs.Ytecfknolpnjokaa
