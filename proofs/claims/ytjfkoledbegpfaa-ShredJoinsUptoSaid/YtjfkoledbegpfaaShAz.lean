/- ShA7, ShA8, ShA9. -/
import Derived.Test.YtjfkoledbegpfaaShA6
/- The walk of the assembler's records. -/
namespace Go.Proofs.Ytjfkoledbegpfaa
open Go.RowKit
open Sh (Lv)
set_option linter.unusedVariables false

theorem wpList_append_nrow {w : World} {ops : Array Oper} {rest : List Oper} {o : Oper} {a : Act} {Q : Exit → Act → World → Prop} (hgd : o.guard = none) (s x : Operand)
    (ho : o.op = .call { callee := .builtin .append, args := #[s, x], argTypes := #[23, 23] }) (base : Nat)
    (v : Value) (n : Nat) (xs : List Value) (hs : a.eval s = v) (hown : w.ownsRow base 47 1 v n xs)
    (g : Nat) (y : Value) (hx : a.eval x = .slice (some ⟨g, 0, none⟩) 1 1) (hc : w.heap[g]? = some (.cells #[y] 47 (0, 0))) (hy : y.oneCell' = true)
    (hbytes : (n + 1) * 24 ≤ 140737488355328) (hbase : base ≤ w.heap.size)
    (h : ∀ g' cap w', w'.ownsRow base 47 1 (.slice (some ⟨g', 0, none⟩) (n + 1) cap) (n + 1) (xs ++ [y]) → w.grownBy w' v.ownBlock → (v.ownBlock = some g' ∨ g' = w.heap.size) → g' < w'.heap.size → wpList Try.prog ops Q rest (a.put o.dst (.slice (some ⟨g', 0, none⟩) (n + 1) cap)) w') : wpList Try.prog ops Q (o :: rest) a w := by
  obtain ⟨i, hi, hz0, hz1, hz2⟩ := info_parts info_nums
  refine wpList_append_lies w hgd s x 23 ho base 47 i (.slice none 0 0) 1 24 Try.underlying23 hi hz0 hz1 hz2 rfl (by decide) v n xs hs hown ⟨g, 0, none⟩ 1 1 [y] hx rfl ?_ ?_ (by omega) (by unfold maxLen; omega) hbytes hbase w.heap.size rfl (fun g' cap w' h1 h2 h3 h4 => h g' cap w' h1 h2 h3 h4)
  · exact World.news_of_block hc
  · intro u hu; simp at hu; subst hu; exact hy

def lenSl : Value → Nat
  | .slice _ n _ => n
  | _ => 0
def RecsPost (w : World) (S C : Nat) (R : Option (List (List Nat))) (e : Ending) (w' : World) : Prop :=
  Fr S C w w' [] [] ∧ match R with
  | none => e = gaveUp 1
  | some outs => ∃ ov rvs, e = .returned ov ∧ Outs w' w.heap.size S C ov rvs outs

set_option maxHeartbeats 4000000 in
set_option maxRecDepth 100000 in
theorem arecords_any (w : World) (B S C N cN : Nat) (lefts : List (List Lv)) (vs : List Value) (v : Value) (h : Ahd w B S C N cN lefts vs v) (hN1 : 0 < N)
    (k : Sh.F) (kv : Value) (hk : KidsOf w (fun i => i < B) k kv 0 0 0) (hne : k ≠ .nil) (hok : Sh.ok k) (hsz : Sh.size k ≤ 500) (hN : lv1 k = N) :
    Calls Try.prog 35 #[.pointer (some ⟨S, 0, none⟩), nag 0 0 0 0 k kv] w (RecsPost w S C (Sh.asR k lefts)) := by
  obtain ⟨R, hR⟩ : ∃ R, Sh.asR k lefts = R := ⟨_, rfl⟩
  rw [hR]
  have HR := Lib.hid hR
  have HS := Lib.hid h
  have HK := Lib.hid hk
  have HN := Lib.hid hN
  obtain ⟨b', capk, M, hkv⟩ : ∃ b' capk M, kv = .slice (some ⟨b', 0, none⟩) M capk := by
    rcases hk with ⟨h1, -⟩ | ⟨-, b', capk, h1, -⟩
    · exact absurd h1 hne
    · exact ⟨_, _, _, h1⟩
  subst hkv
  obtain ⟨T, hT⟩ : ∃ T, T = lv1 k := ⟨_, rfl⟩
  have HT := Lib.hid hT
  simp only [nag, nx, dn, rn, Nat.zero_add, if_true, Int.natCast_zero]
  rw [← hT]
  have hSl := h.s.lt
  have hCl := h.c.lt
  have hBS := h.bs
  clear h hk hR hT hN
  go_enter Try.func35, Try.ntmps35
  go_wp2_with fail
  have C1 := cel_new w #[.int .i64 0, .int .i64 0, .int .i64 0, .int .i64 0, .int .i64 (T : Nat), .slice (some ⟨b', 0, none⟩) M capk] 50
  have hb1 := (Below.refl w.heap.size w).alloc (Nat.le_refl _) (.cells #[.int .i64 0, .int .i64 0, .int .i64 0, .int .i64 0, .int .i64 (T : Nat), .slice (some ⟨b', 0, none⟩) M capk] 50)
  have S1 : (w.alloc (.cells #[.int .i64 0, .int .i64 0, .int .i64 0, .int .i64 0, .int .i64 (T : Nat), .slice (some ⟨b', 0, none⟩) M capk] 50)).heap.size = w.heap.size + 1 := by simp
  generalize w.alloc (.cells #[.int .i64 0, .int .i64 0, .int .i64 0, .int .i64 0, .int .i64 (T : Nat), .slice (some ⟨b', 0, none⟩) M capk] 50) = w1 at *
  have HC1 := Lib.hid C1
  have HB1 := Lib.hid hb1
  have HS1 := Lib.hid S1
  have HH1 := Lib.hid (HS.out.next hb1)
  have HF1 := Lib.hid (Fr.of_below (S := S) (C := C) (vs := []) hb1)
  clear C1 hb1
  go_loopw [5] (fun x wr => ∃ (q : Nat) (lf : List (List Lv)) (vs' : List Value) (v' ov : Value) (rvs : List Value) (outs : List (List Nat)), x = ov ∧ outs.length + q = 8 ∧ Fr S C w1 wr [] [] ∧ Ahd wr B S C N cN lf vs' v' ∧ Outs wr w1.heap.size S C ov rvs outs ∧ Hid ((Sh.asmR k q lf outs).bind (fun x => if ∀ l ∈ x.1, l = [] then some x.2 else none) = R)) (fun x _ => 9 - lenSl x)
  case atStart => exact ⟨8, lefts, vs, v, _, [], [], rfl, rfl, Fr.refl _ _ _ _, HH1.out, outs_nil _ _ _ _, Lib.hid HR.out⟩
  case round =>
    obtain ⟨q, lf, vs', v', ov, rvs, outs, rfl, hq8, hfr2, hah, hout, HQ⟩ := hrel
    rename World => wr
    have hnF : ¬ Out S C [] w.heap.size := fun e => by have := out_nil e; omega
    have CF := HC1.out.fr hnF hfr2
    obtain ⟨aa, ca, rfl⟩ := rv_form hout.o
    have s0 : wr.cell? ⟨S, 0, none⟩ = some (.slice (some ⟨C, 0, none⟩) N cN) := hah.s.c 0
    obtain ⟨a0, cap0, hv0, hlv0, hl10, hl20, -⟩ := hah.lv 0 hN1
    obtain ⟨l0, hl0⟩ : ∃ l0, lf.getD 0 [] = l0 := ⟨_, rfl⟩
    rw [hl0] at hv0 hl10 hlv0
    have cc : wr.cell? ⟨C, 0, none⟩ = some (.slice a0 l0.length cap0) := by
      rw [hah.c.c 0, ← hv0]
      have : 0 < vs'.length := Nat.lt_of_lt_of_le hN1 hah.vl
      simp [List.getD, List.getElem?_eq_getElem this]
    have hNN := hah.nb
    have hNI : (0 : Int) < (N : Int) := by omega
    have HF2 := Lib.hid hfr2
    have HA2 := Lib.hid hah
    have HO2 := Lib.hid hout
    have HL0 := Lib.hid hl0
    obtain ⟨n0, hn0⟩ : ∃ n0, outs.length = n0 := ⟨_, rfl⟩
    rw [hn0]
    rw [hn0] at hq8
    have HN0 := Lib.hid hn0
    clear hfr2 hah hout hv0 hlv0 hl10 hl20 hl0 hn0
    cases l0 with
    | nil =>
      simp only [List.length_nil] at cc
      have hRR : R = if ∀ l ∈ lf, l = [] then some outs else none := by
        rw [← HQ]
        cases q with
        | zero => unfold Sh.asmR; rw [if_pos HL0.out]; rfl
        | succ q => unfold Sh.asmR; rw [if_pos HL0.out]; rfl
      have HRR := Lib.hid hRR
      clear hRR
      go_wp2_with fail
      go_loopw [39] (fun i wq => ∃ j : Nat, j ≤ N ∧ i = .int .i64 j ∧ wq = wr ∧ ∀ t, t < j → lf.getD t [] = []) (fun i _ => N - (intOf i).toNat)
      case atStart => exact ⟨0, Nat.zero_le _, rfl, rfl, fun t ht => absurd ht (Nat.not_lt_zero _)⟩
      case round =>
        obtain ⟨j, hjN, rfl, rfl, hall⟩ := hrel
        rename World => wq
        by_cases hj : j = N
        · subst hj
          obtain rfl : R = some outs := by
            rw [HRR.out, if_pos]
            intro l hl
            obtain ⟨t, ht, rfl⟩ := List.mem_iff_getElem.1 hl
            have := hall t (by have := HA2.out.cl; omega)
            simpa [List.getD, List.getElem?_eq_getElem ht] using this
          have hjI : ¬ (j : Int) < (j : Int) := by omega
          go_wp2_with fail
          go_ret
          refine ⟨HF1.out.trans HF2.out, _, rvs, rfl, ?_⟩
          have h := HO2.out.mono (G' := w.heap.size) (by have := HS1.out; omega)
          rw [← HN0.out]; exact h
        · have hjI : (j : Int) < (N : Int) := by omega
          obtain ⟨aj, capj, hvj, hlvj, hl1j, hl2j, -⟩ := HA2.out.lv j (by omega)
          obtain ⟨lj, hlj⟩ : ∃ lj, lf.getD j [] = lj := ⟨_, rfl⟩
          rw [hlj] at hvj
          have cj : wq.cell? ⟨C, j, none⟩ = some (.slice aj lj.length capj) := by
            rw [HA2.out.c.c j, ← hvj]
            have : j < vs'.length := Nat.lt_of_lt_of_le (by omega) HA2.out.vl
            simp [List.getD, List.getElem?_eq_getElem this]
          have hjN2 : j ≤ N := hjN
          clear hvj hlvj hl1j hl2j
          cases lj with
          | nil =>
            simp only [List.length_nil] at cj
            have HLJ := Lib.hid hlj
            clear hlj
            go_wp2_with fail
            refine ⟨⟨j + 1, by omega, by go_num, trivial, fun t ht => ?_⟩, ?_⟩
            · by_cases e : t = j
              · rw [e]; exact HLJ.out
              · exact hall t (by omega)
            · simp [intOf]; omega
          | cons y t =>
            simp only [List.length_cons] at cj
            have hIj : (0 : Int) < ((t.length + 1 : Nat) : Int) := by omega
            obtain rfl : R = none := by
              rw [HRR.out, if_neg]
              intro hz
              have hjl : j < lf.length := by have := HA2.out.cl; omega
              have h1 := hz (lf[j]) (List.getElem_mem _)
              have h2 : lf.getD j [] = lf[j] := by simp [List.getD, List.getElem?_eq_getElem hjl]
              rw [← h2, hlj] at h1; cases h1
            clear hlj
            go_wp2_with fail
            refine And.intro rfl ?_
            exact (⟨HF1.out.trans HF2.out, rfl⟩ : RecsPost w S C none (gaveUp 1) wq)
    | cons x0 t0 =>
      have hI0 : (0 : Int) < ((t0.length + 1 : Nat) : Int) := by omega
      simp only [List.length_cons] at cc
      cases q with
      | zero =>
        obtain rfl : R = none := by
          rw [← HQ]; unfold Sh.asmR; rw [if_neg (by rw [HL0.out]; simp)]; rfl
        have h8 : ((n0 : Int) == 8) = true := by rw [beq_iff_eq]; omega
        go_wp2_with fail
        refine And.intro rfl ?_
        exact (⟨HF1.out.trans HF2.out, rfl⟩ : RecsPost w S C none (gaveUp 1) wr)
      | succ q =>
        have h8 : ((n0 : Int) == 8) = false := by rw [beq_eq_false_iff_ne]; omega
        have sz1 := HA2.out.s.free 1
        have s1 : wr.cell? ⟨S, 1, none⟩ = some v' := HA2.out.s.c 1
        have hBw1 : B ≤ wr.heap.size := by have := HA2.out.bs; have := HA2.out.s.lt; omega
        have g0 : wr.cell? ⟨w.heap.size, 0, none⟩ = some (.int .i64 0) := CF.c 0
        have g1 : wr.cell? ⟨w.heap.size, 1, none⟩ = some (.int .i64 0) := CF.c 1
        have g2 : wr.cell? ⟨w.heap.size, 2, none⟩ = some (.int .i64 0) := CF.c 2
        have g3 : wr.cell? ⟨w.heap.size, 3, none⟩ = some (.int .i64 0) := CF.c 3
        have g4 : wr.cell? ⟨w.heap.size, 4, none⟩ = some (.int .i64 (T : Nat)) := CF.c 4
        have g5 : wr.cell? ⟨w.heap.size, 5, none⟩ = some (.slice (some ⟨b', 0, none⟩) M capk) := CF.c 5
        have hSF : ¬ S = w.heap.size := by omega
        have D0 := HA2.out.reset
        have KW : KidsOf (wr.setCell ⟨S, 1, none⟩ (.slice none 0 0)) (fun i => i < B) k (.slice (some ⟨b', 0, none⟩) M capk) 0 0 0 := HK.out.keep (fun i (hi : i < B) => by
          rw [heap_set_ne _ _ _ _ _ (by omega), HF2.out.block i (by have := HS1.out; omega) (fun e => by have := out_nil e; omega)]
          exact HB1.out.block i (by omega))
        have HCL := aalong_any B S C N cN (Sh.size k + 1) 0 k 0 0 0 0 (.slice (some ⟨b', 0, none⟩) M capk) (wr.setCell ⟨S, 1, none⟩ (.slice none 0 0)) lf vs' [] (.slice none 0 0) (Nat.lt_succ_self _) (by omega) hok (by omega) (by omega) (by omega) (by have := HN.out; omega) D0 KW
        simp only [nag, nx, dn, rn, Nat.zero_add, if_true] at HCL
        rw [← HT.out] at HCL
        have HCC := Lib.hid HCL
        have HSZ := Lib.hid (show (wr.setCell ⟨S, 1, none⟩ (.slice none 0 0)).heap.size = wr.heap.size by simp [World.setCell])
        clear HCL D0 KW
        go_wp2_with fail
        refine HCC.out.mono ?_
        rintro e w5 ⟨rv5, hfr5, hm⟩
        obtain ⟨X, hX⟩ : ∃ X, Sh.al1 Sh.asW 0 k 0 0 0 0 (lf, []) = X := ⟨_, rfl⟩
        have hRX : (X.bind fun st => Sh.asmR k q st.1 (outs ++ [st.2])).bind (fun x => if ∀ l ∈ x.1, l = [] then some x.2 else none) = R := by
          rw [← HQ, ← hX]
          conv => rhs; unfold Sh.asmR
          rw [if_neg (by rw [HL0.out]; simp)]
        rw [hX] at hm
        have hF5 : Fr S C w1 w5 [] [] := (HF2.out.setS 1 _).trans (hfr5.forget rfl)
        cases X with
        | none =>
          obtain rfl := hm
          obtain rfl : R = none := hRX.symm
          refine And.intro rfl ?_
          exact (⟨HF1.out.trans hF5, rfl⟩ : RecsPost w S C none (gaveUp 1) w5)
        | some st =>
          obtain ⟨rfl, vs5, hsd5⟩ := hm
          obtain ⟨aa5, ca5, hrv5⟩ := rv_form hsd5.own
          subst hrv5
          have s15 : w5.cell? ⟨S, 1, none⟩ = some (.slice aa5 st.2.length ca5) := hsd5.s.c 1
          have hwr5 : wr.heap.size ≤ w5.heap.size := by have := hfr5.size; have := HSZ.out; omega
          have h1r : w1.heap.size ≤ wr.heap.size := HF2.out.size
          have hk5 : ∀ i, i < wr.heap.size → i ≠ S → i ≠ C → w5.heap[i]? = wr.heap[i]? := fun i hi h1 h2 => by
            rw [(hfr5.forget rfl).block i (by rw [HSZ.out]; exact hi) (fun e => by rcases out_nil e with e | e <;> omega), heap_set_ne _ _ _ _ _ (Ne.symm h1)]
          have hO5 := HO2.out.keep hk5
          have hrb : ∀ b, (Value.slice aa5 st.2.length ca5).ownBlock = some b → wr.heap.size ≤ b := fun b hb => by
            rcases Nat.lt_or_ge b wr.heap.size with hlt | hge
            · have h3 := hfr5.own b (by rw [HSZ.out]; exact hlt) (out_own hb)
              rcases h3 with e | e | ⟨j, hj⟩
              · exact absurd (e ▸ hb) hsd5.far.1
              · exact absurd (e ▸ hb) hsd5.far.2
              · have hj2 := getD_lt hj
                have : j = 0 := by simp at hj2; omega
                subst this
                cases hj
            · exact hge
          have hb5 := (Below.refl w5.heap.size w5).alloc (Nat.le_refl _) (.cells #[.slice aa5 st.2.length ca5] 47)
          have hO6 := hO5.keep (w' := w5.alloc (.cells #[.slice aa5 st.2.length ca5] 47)) (fun i hi _ _ => heap_alloc_old _ _ hi)
          have own6 := World.ownsRow.alloc (own_base (G := w1.heap.size) hsd5.own (fun i hi => Nat.le_trans h1r (hrb i hi))) (.cells #[.slice aa5 st.2.length ca5] 47)
          have hol : (w5.alloc (.cells #[.slice aa5 st.2.length ca5] 47)).ownsRow w1.heap.size 47 1 (.slice aa n0 ca) n0 rvs := by
            have := hO6.o; rw [HN0.out] at this; exact this
          have hlb : (n0 + 1) * 24 ≤ 140737488355328 := by omega
          have hbase : w1.heap.size ≤ (w5.alloc (.cells #[.slice aa5 st.2.length ca5] 47)).heap.size := by simp; omega
          have HD5 := Lib.hid hsd5
          have HFR5 := Lib.hid hF5
          have HK5 := Lib.hid hrb
          have HRX := Lib.hid hRX
          have HO6 := Lib.hid hO6
          have HOL := Lib.hid hol
          have HW6 := Lib.hid own6
          clear hsd5 hF5 hrb hRX hO5 hO6 hol own6 hk5 hX HCC hfr5 hb5
          go_wp2_with (at_builtin; refine wpList_append_nrow rfl (.tmp 27) (.tmp 32) rfl w1.heap.size (.slice aa n0 ca) n0 rvs rfl HOL.out w5.heap.size (.slice aa5 st.2.length ca5) rfl (heap_alloc_new w5 _) rfl hlb hbase ?_; intro g6 cap6 w6 hown6 hg6 hor6 hlt6)
          have HG6 := Lib.hid (show (w5.alloc (.cells #[.slice aa5 st.2.length ca5] 47)).grownBy w6 (Value.slice aa n0 ca).ownBlock from hg6)
          have HOR6 := Lib.hid hor6
          have HOW6 := Lib.hid hown6
          clear hg6 hor6 hown6
          refine ⟨⟨_, _, _, _, _, _, _, _, _, _, _, _, _, _, _, _, _, _, _, _, _, _, _, _, _, _, _, ⟨q, st.1, vs5, .slice aa5 st.2.length ca5, .slice (some ⟨g6, 0, none⟩) (n0 + 1) cap6, rvs ++ [.slice aa5 st.2.length ca5], outs ++ [st.2], rfl, by rw [List.length_append]; simp only [List.length_cons, List.length_nil]; have := HN0.out; omega, ?_, ?_, ?_, ?_⟩, rfl⟩, ?_⟩
          · exact (HFR5.out.alloc _).grown HG6.out (fun k hk => (HOL.out.lt k hk).1)
          · have hA := HD5.out.hd.next ((Below.refl w5.heap.size w5).alloc (Nat.le_refl _) (.cells #[.slice aa5 st.2.length ca5] 47))
            have hS := HD5.out.s.lt
            have hC := HD5.out.c.lt
            refine hA.kept ⟨HG6.out.os, HG6.out.tape, HG6.out.output, HG6.out.size, fun i hi => HG6.out.block i (by simp; omega) (fun e => by have := (HOL.out.lt i e.symm).1; omega)⟩ ?_ ?_
            · exact HG6.out.block S (by simp; omega) (fun e => HO6.out.fo.1 (by rw [HN0.out]; exact e.symm))
            · exact HG6.out.block C (by simp; omega) (fun e => HO6.out.fo.2 (by rw [HN0.out]; exact e.symm))
          · have hS := HD5.out.s.lt
            have hC := HD5.out.c.lt
            have hO := HO6.out
            have hn := HN0.out
            subst hn
            exact hO.snoc HW6.out HD5.out.far (fun j b e e2 => by
                have h1 := HK5.out b e2
                by_cases hj : j < outs.length
                · have := ((HO2.out.r j hj).lt b e).2; omega
                · have hr := HO2.out.rl
                  rw [show rvs.getD j undef = undef by simp [List.getD, List.getElem?_eq_none (show rvs.length ≤ j by omega)]] at e
                  cases e)
              (fun b e e2 => by
                have h1 := HK5.out b e
                have := (HO2.out.o.lt b e2).2; omega) HOW6.out HG6.out (by
                rcases HOR6.out with e | e
                · exact Or.inl e
                · exact Or.inr (Nat.le_of_eq e.symm)) ⟨by simp; omega, by simp; omega⟩
          · exact HRX.out
          · show 9 - (n0 + 1) < 9 - n0
            omega
end Go.Proofs.Ytjfkoledbegpfaa
/- The walks of shred.Assemble's closure, and of tried with it. -/
namespace Go.Proofs.Ytjfkoledbegpfaa
open Go.RowKit
open Sh (Lv)
set_option linter.unusedVariables false

structure Kp (w w' : World) (P : Nat → Prop) : Prop where
  os : w'.os = w.os
  tape : w'.tape = w.tape
  output : w'.output = w.output
  size : w.heap.size ≤ w'.heap.size
  block : ∀ i, i < w.heap.size → ¬ P i → w'.heap[i]? = w.heap[i]?
theorem Fr.kp {S C : Nat} {w w' : World} (h : Fr S C w w' [] []) (P : Nat → Prop) (hP : P S ∧ P C) : Kp w w' P := ⟨h.os, h.tape, h.output, h.size, fun i hi hn => h.block i hi (fun e => by
  rcases out_nil e with e | e
  · exact hn (e ▸ hP.1)
  · exact hn (e ▸ hP.2))⟩
theorem Kp.trans {w w1 w2 : World} {P : Nat → Prop} (h : Kp w w1 P) (k : Kp w1 w2 P) : Kp w w2 P :=
  ⟨k.os.trans h.os, k.tape.trans h.tape, k.output.trans h.output, Nat.le_trans h.size k.size, fun i hi hn => (k.block i (Nat.lt_of_lt_of_le hi h.size) hn).trans (h.block i hi hn)⟩
theorem Kp.set {w w1 : World} {P : Nat → Prop} (h : Kp w w1 P) (b i : Nat) (x : Value) (hb : P b ∨ w.heap.size ≤ b) : Kp w (w1.setCell ⟨b, i, none⟩ x) P :=
  ⟨h.os, h.tape, h.output, by simpa [World.setCell] using h.size, fun j hj hn => (heap_set_ne _ _ _ _ _ (fun e => by subst e; rcases hb with hb | hb; exact hn hb; omega)).trans (h.block j hj hn)⟩
theorem Kp.of_below {w w' : World} {P : Nat → Prop} (h : Below w.heap.size w w') : Kp w w' P := ⟨h.os, h.tape, h.output, h.size, fun i hi _ => h.block i hi⟩
theorem Kp.below {w w' : World} {P : Nat → Prop} {G : Nat} (h : Kp w w' P) (hG : G ≤ w.heap.size) (hP : ∀ i, i < G → ¬ P i) : Below G w w' := ⟨h.os, h.tape, h.output, h.size, fun i hi => h.block i (by omega) (hP i hi)⟩
def in3 (S C Q : Nat) (i : Nat) : Prop := i = S ∨ i = C ∨ i = Q
def AsmPost (w : World) (S C Q : Nat) (ok er : Ending) (R : Option (List (List Nat))) (e : Ending) (w' : World) : Prop :=
  Kp w w' (in3 S C Q) ∧ match R with
  | none => e = er ∧ Cel w' Q #[.slice none 0 0] 23
  | some outs => e = ok ∧ ∃ ov rvs, Cel w' Q #[ov] 23 ∧ Outs w' w.heap.size S C ov rvs outs
theorem Cel.set1 {w : World} {b : Nat} {c0 : Value} {t : TypeId} (h : Cel w b #[c0] t) (x : Value) : Cel (w.setCell ⟨b, 0, none⟩ x) b #[x] t := by
  unfold Cel at *; simp [World.setCell, Array.getElem?_modify, h]

set_option maxHeartbeats 2000000 in
set_option maxRecDepth 100000 in
theorem asm1_any (w : World) (B S C N cN : Nat) (lefts : List (List Lv)) (vs : List Value) (v : Value) (h : Ahd w B S C N cN lefts vs v) (hN1 : 0 < N)
    (k : Sh.F) (kv : Value) (hk : KidsOf w (fun i => i < B) k kv 0 0 0) (hne : k ≠ .nil) (hok : Sh.ok k) (hsz : Sh.size k ≤ 500) (hN : lv1 k = N)
    (Tb Q : Nat) (hTb : Cel w Tb (nx 0 0 0 0 k kv).toArray 50) (hQ : Cel w Q #[.slice none 0 0] 23) (hd : S ≠ Q ∧ C ≠ Q) :
    Calls Try.prog 34 #[.pointer (some ⟨S, 0, none⟩), .pointer (some ⟨Tb, 0, none⟩), .pointer (some ⟨Q, 0, none⟩)] w (AsmPost w S C Q (.returned (.tuple #[])) (gaveUp 1) (Sh.asR k lefts)) := by
  obtain ⟨R, hR⟩ : ∃ R, Sh.asR k lefts = R := ⟨_, rfl⟩
  have HCL := arecords_any w B S C N cN lefts vs v h hN1 k kv hk hne hok hsz hN
  rw [hR] at HCL ⊢
  obtain ⟨b', capk, M, hkv⟩ : ∃ b' capk M, kv = .slice (some ⟨b', 0, none⟩) M capk := by
    rcases hk with ⟨h1, -⟩ | ⟨-, b', capk, h1, -⟩
    · exact absurd h1 hne
    · exact ⟨_, _, _, h1⟩
  subst hkv
  obtain ⟨T, hT⟩ : ∃ T, T = lv1 k := ⟨_, rfl⟩
  simp only [nag, nx, dn, rn, Nat.zero_add, if_true, Int.natCast_zero] at HCL hTb
  rw [← hT] at HCL hTb
  have g0 : w.cell? ⟨Tb, 0, none⟩ = some (.int .i64 0) := hTb.c 0
  have g1 : w.cell? ⟨Tb, 1, none⟩ = some (.int .i64 0) := hTb.c 1
  have g2 : w.cell? ⟨Tb, 2, none⟩ = some (.int .i64 0) := hTb.c 2
  have g3 : w.cell? ⟨Tb, 3, none⟩ = some (.int .i64 0) := hTb.c 3
  have g4 : w.cell? ⟨Tb, 4, none⟩ = some (.int .i64 (T : Nat)) := hTb.c 4
  have g5 : w.cell? ⟨Tb, 5, none⟩ = some (.slice (some ⟨b', 0, none⟩) M capk) := hTb.c 5
  have HCC := Lib.hid HCL
  have HQ := Lib.hid hQ
  have HS := Lib.hid h
  have HD := Lib.hid hd
  clear HCL hTb hQ h hd hT hk hR
  go_enter Try.func34, Try.ntmps34
  go_wp2_with fail
  refine HCC.out.mono ?_
  rintro e w5 ⟨hfr, hm⟩
  have hno : ¬ Out S C [] Q := fun e => by rcases out_nil e with e | e; exact HD.out.1 e.symm; exact HD.out.2 e.symm
  have CQ := HQ.out.fr hno hfr
  have HK := Lib.hid (hfr.kp (in3 S C Q) ⟨Or.inl rfl, Or.inr (Or.inl rfl)⟩)
  cases R with
  | none =>
    obtain rfl := hm
    refine And.intro rfl ?_
    exact (⟨HK.out, rfl, CQ⟩ : AsmPost w S C Q (.returned (.tuple #[])) (gaveUp 1) none (gaveUp 1) w5)
  | some outs =>
    obtain ⟨ov, rvs, rfl, ho⟩ := hm
    obtain ⟨aa, ca, rfl⟩ := rv_form ho.o
    have c0 : w5.cell? ⟨Q, 0, none⟩ = some (.slice none 0 0) := CQ.c 0
    have cz := CQ.free 0
    have HCQ := Lib.hid CQ
    have HO := Lib.hid ho
    have hQw := HQ.out.lt
    clear CQ ho hfr
    obtain ⟨n0, hn0⟩ : ∃ n0, n0 = outs.length := ⟨_, rfl⟩
    rw [← hn0]
    have HN0 := Lib.hid hn0
    clear hn0
    go_wp2_with fail
    refine bodyPost_ret (v := .tuple #[]) (by simp [results, Try.results34, go_sem]) rfl ⟨HK.out.set Q 0 _ (Or.inl (Or.inr (Or.inr rfl))), rfl, .slice aa n0 ca, rvs, HCQ.out.set1 _, ?_⟩
    have h := HO.out
    rw [← HN0.out] at h
    refine ⟨own_block h.o (fun i hi => heap_set_ne _ _ _ _ _ (fun e => by have := (h.o.lt i hi).1; omega)), fun j hj => own_block (h.r j hj) (fun i hi => heap_set_ne _ _ _ _ _ (fun e => by have := ((h.r j hj).lt i hi).1; omega)), h.fo, h.fr, h.ap, h.ao⟩

set_option maxHeartbeats 2000000 in
set_option maxRecDepth 100000 in
theorem tried_asm (w : World) (B S C N cN : Nat) (lefts : List (List Lv)) (vs : List Value) (v : Value) (h : Ahd w B S C N cN lefts vs v) (hN1 : 0 < N)
    (k : Sh.F) (kv : Value) (hk : KidsOf w (fun i => i < B) k kv 0 0 0) (hne : k ≠ .nil) (hok : Sh.ok k) (hsz : Sh.size k ≤ 500) (hN : lv1 k = N)
    (Tb Q : Nat) (hTb : Cel w Tb (nx 0 0 0 0 k kv).toArray 50) (hQ : Cel w Q #[.slice none 0 0] 23) (hd : S ≠ Q ∧ C ≠ Q) :
    Calls Try.prog 24 #[.func (.func 34) #[] #[.pointer (some ⟨S, 0, none⟩), .pointer (some ⟨Tb, 0, none⟩), .pointer (some ⟨Q, 0, none⟩)]] w (AsmPost w S C Q (.returned (.int .i64 0)) (.returned (.int .i64 1)) (Sh.asR k lefts)) := by
  have hmf : ∀ (fn : Fn) (first cap : Array Value) (w : World), (Instr.makeFunc fn first cap).run Try.prog w = .ok (.func fn first cap) w := fun _ _ _ _ => rfl
  obtain ⟨R, hR⟩ : ∃ R, Sh.asR k lefts = R := ⟨_, rfl⟩
  rw [hR]
  have E1 := cel_new w #[.int .i64 0] 24
  have hbl := (Below.refl w.heap.size w).alloc (Nat.le_refl _) (.cells #[.int .i64 0] 24)
  have K1 := hk.keep (fun i (hi : i < B) => heap_alloc_old w (.cells #[.int .i64 0] 24) (by have := h.bs; have := h.s.lt; omega))
  have C1 := asm1_any (w.alloc (.cells #[.int .i64 0] 24)) B S C N cN lefts vs v (h.next hbl) hN1 k kv K1 hne hok hsz hN Tb Q (hTb.next hbl) (hQ.next hbl) hd
  rw [hR] at C1
  have hne3 : ¬ in3 S C Q w.heap.size := fun e => by have := h.s.lt; have := h.c.lt; have := hQ.lt; rcases e with e | e | e <;> omega
  have HQl := hQ.lt
  have HC1 := Lib.hid C1
  have HE1 := Lib.hid E1
  have HB1 := Lib.hid hbl
  clear h hk hTb hQ hd hR E1 K1 C1 hbl
  go_enter_defers Try.func24, Try.ntmps24
  go_wp2_with fail
  refine HC1.out.mono ?_
  rintro e w5 ⟨hkp, hm⟩
  have E5 : Cel w5 w.heap.size #[.int .i64 0] 24 := (hkp.block w.heap.size (by simp) hne3).trans HE1.out
  have c5 : w5.cell? ⟨w.heap.size, 0, none⟩ = some (.int .i64 0) := E5.c 0
  have z5 := E5.free 0
  have HK5 := Lib.hid ((Kp.of_below HB1.out).trans hkp)
  cases R with
  | none =>
    obtain ⟨rfl, hq⟩ := hm
    change bodyPostD _ _ _ (Exit.panic _) _ w5
    refine _root_.Go.leaves_cons (f := 41) (args := #[.pointer (some ⟨w.heap.size, 0, none⟩)]) (by simp) (by simp [go_sem]) ?_
    refine (caught_panicking ⟨w.heap.size, 0, none⟩ 0 1 [] w5 c5 z5).mono ?_
    rintro e u' w'' ⟨rfl, rfl, rfl⟩
    have HP := Lib.hid (show AsmPost w S C Q (.returned (.int .i64 0)) (.returned (.int .i64 1)) none (.returned (.int .i64 1)) (w5.setCell ⟨w.heap.size, 0, none⟩ (.int .i64 1)) from ⟨HK5.out.set _ _ _ (Or.inr (Nat.le_refl _)), rfl, hq.far _ _ _ (by omega)⟩)
    simp [Leaves, settle, results, Try.results24, go_sem, c5]
    exact HP.out
  | some outs =>
    obtain ⟨rfl, ov, rvs, hq, ho⟩ := hm
    go_wp2_with fail
    refine _root_.Go.leaves_cons (f := 41) (args := #[.pointer (some ⟨w.heap.size, 0, none⟩)]) (by simp) (by simp [go_sem]) ?_
    refine (caught_idle ⟨w.heap.size, 0, none⟩ _).mono ?_
    rintro e u' w'' ⟨rfl, rfl, rfl⟩
    have HP := Lib.hid (show AsmPost w S C Q (.returned (.int .i64 0)) (.returned (.int .i64 1)) (some outs) (.returned (.int .i64 0)) (w5.setCell ⟨w.heap.size, 0, none⟩ (.int .i64 0)) from ⟨HK5.out.set _ _ _ (Or.inr (Nat.le_refl _)), rfl, ov, rvs, hq.far _ _ _ (by omega), by
      have h := ho
      refine Outs.mono (G := (w.alloc (.cells #[.int .i64 0] 24)).heap.size) ?_ (by simp)
      refine ⟨own_block h.o (fun i hi => heap_set_ne _ _ _ _ _ (fun e => by have := (h.o.lt i hi).1; simp at this; omega)), fun j hj => own_block (h.r j hj) (fun i hi => heap_set_ne _ _ _ _ _ (fun e => by have := ((h.r j hj).lt i hi).1; simp at this; omega)), h.fo, h.fr, h.ap, h.ao⟩⟩)
    simp [Leaves, settle, results, Try.results24, go_sem, c5]
    exact HP.out
end Go.Proofs.Ytjfkoledbegpfaa
/- The walk of shred.Assemble. -/
namespace Go.Proofs.Ytjfkoledbegpfaa
open Go.RowKit
open Sh (Lv)
set_option linter.unusedVariables false

/-- columns' records -/
noncomputable def Sh.asmbl (l : List Sh.Fd) (cols : List (List Lv)) : Except Nat (List (List Nat)) :=
  if Sh.check l ≠ 0 then .error (Sh.check l) else if cols.length ≠ lv1 (Sh.formK l) then .error 1 else match Sh.asR (Sh.formK l) cols with
    | none => .error 1
    | some outs => .ok outs
/-- a slice of columns, read below block B -/
def LRows (w : World) (B : Nat) (a : Option Addr) (cols : List (List Lv)) : Prop :=
  ∃ news : List Value, news.length = cols.length ∧ (∀ i, i < cols.length → LvSl w B (news.getD i undef) (cols.getD i [])) ∧
    (cols ≠ [] → ∃ b off, a = some ⟨b, off, none⟩ ∧ b < B ∧ ∀ i, i < cols.length → w.cell? ⟨b, off + i, none⟩ = news[i]?)
theorem LvSl.mono {w : World} {B B' : Nat} {v : Value} {l : List Lv} (h : LvSl w B v l) (hB : B ≤ B') : LvSl w B' v l := by
  obtain ⟨a, cap, e, h1, h2⟩ := h
  exact ⟨a, cap, e, h1.mono hB, h2⟩
theorem LRows.below {w w' : World} {B : Nat} {a : Option Addr} {l : List (List Lv)} (h : LRows w B a l) (hb : Below B w w') : LRows w' B a l := by
  obtain ⟨news, h1, h2, h3⟩ := h
  refine ⟨news, h1, fun i hi => (h2 i hi).below hb, fun hne => ?_⟩
  obtain ⟨b, off, e, hlt, hc⟩ := h3 hne
  exact ⟨b, off, e, hlt, fun i hi => (hb.cell (p := ⟨b, off + i, none⟩) hlt).trans (hc i hi)⟩
def AsmblPost (w : World) (R : Except Nat (List (List Nat))) (e : Ending) (w' : World) : Prop :=
  Below w.heap.size w w' ∧ match R with
  | .error n => e = .returned (.tuple #[.slice none 0 0, .int .i64 (n : Int)])
  | .ok outs => ∃ ov rvs S C, e = .returned (.tuple #[ov, .int .i64 0]) ∧ Outs w' w.heap.size S C ov rvs outs

set_option maxHeartbeats 2000000 in
set_option maxRecDepth 100000 in
theorem assemble_any (a : Option Addr) (cap : Nat) (l : List Sh.Fd) (ca : Option Addr) (ccap : Nat) (cols : List (List Lv)) (w : World) (hcap : l.length ≤ cap) (hcm : cap ≤ maxLen) (hu : Fds w w.heap.size a l) (hcl : cols.length ≤ maxLen) (hr : LRows w w.heap.size ca cols) :
    Calls Try.prog 18 #[.slice a l.length cap, .slice ca cols.length ccap] w (AsmblPost w (Sh.asmbl l cols)) := by
  obtain ⟨R, hR⟩ : ∃ R, Sh.asmbl l cols = R := ⟨_, rfl⟩
  rw [hR]
  have HR := Lib.hid hR
  have HT0 := Lib.hid (tree_any a cap l w hcap hcm hu)
  have HRR := Lib.hid hr
  obtain ⟨m, hm⟩ : ∃ m, m = cols.length := ⟨_, rfl⟩
  rw [← hm] at hcl ⊢
  unfold maxLen at hcl
  have HM := Lib.hid hm
  clear hR hu hr hm
  go_enter Try.func18, Try.ntmps18
  go_wp2_with fail
  refine HT0.out.mono ?_
  rintro e w2 ⟨hb, ⟨h0, rfl⟩ | ⟨h0, k, kv, hk, hko, hfl, h12, rfl, hkv⟩⟩
  · have HB := Lib.hid hb
    have HRE := Lib.hid (show R = .error (Sh.check l) by rw [← HR.out]; unfold Sh.asmbl; rw [if_pos h0])
    obtain ⟨ck, hck⟩ : ∃ ck, ck = Sh.check l := ⟨_, rfl⟩
    unfold node0
    rw [← hck] at h0 HRE ⊢
    have hckI : ((ck : Int) != 0) = true := by rw [bne_iff_ne]; omega
    clear hck hb
    go_wp2_with fail
    obtain rfl := HRE.out
    exact bodyPost_ret (v := .tuple #[.slice none 0 0, .int .i64 (ck : Int)]) (by simp [results, Try.results18, go_sem]) rfl ⟨HB.out.alloc HB.out.size _, rfl⟩
  · obtain ⟨b', capk, M, hkv2⟩ : ∃ b' capk M, kv = .slice (some ⟨b', 0, none⟩) M capk := by
      rcases hkv with ⟨h1, -⟩ | ⟨-, b', capk, h1, -⟩
      · exact absurd h1 hk
      · exact ⟨_, _, _, h1⟩
    subst hkv2
    obtain ⟨T, hT⟩ : ∃ T, T = lv1 k := ⟨_, rfl⟩
    have hT12 : T ≤ 12 := by
      have e1 := Sh.leaves_le (.cons 0 k .nil)
      rw [← Sh.flat_length, hfl, leaves_cons] at e1
      omega
    have hT0 : 0 < T := by rw [hT]; exact lv1_pos k
    have HTk := Lib.hid hT
    have HKV := Lib.hid hkv
    have HB2 := Lib.hid hb
    have hs2 : w.heap.size ≤ w2.heap.size := hb.size
    have HC0 := Lib.hid h0
    have HFL := Lib.hid hfl
    simp only [nag, nx, dn, rn, Nat.zero_add, if_true]
    rw [← hT]
    have hKs : Sh.size k ≤ 500 := by
      have e1 : l.length = Sh.size k + 1 := by rw [← hfl, Sh.flat_length]; simp [Sh.size]; omega
      omega
    clear hT hb hkv hfl h0
    by_cases hmT : m = T
    · have hmI : ((m : Int) != (T : Int)) = false := by rw [hmT]; exact bne_self_eq_false _
      have HRE := Lib.hid (show R = match Sh.asR k cols with | none => .error 1 | some outs => .ok outs by
        rw [← HR.out]; unfold Sh.asmbl
        rw [if_neg (by rw [HC0.out]; simp), Sh.formK_is HFL.out, if_neg (by rw [← HM.out, ← HTk.out, hmT]; simp)])
      have hcne : cols ≠ [] := fun e => by have := HM.out; rw [e] at this; simp at this; omega
      obtain ⟨news, hn1, hn2, hn3⟩ := HRR.out
      obtain ⟨cb, co, rfl, hcb, hcc⟩ := hn3 hcne
      have hmf : ∀ (fn : Fn) (first cap : Array Value) (w : World), (Instr.makeFunc fn first cap).run Try.prog w = .ok (.func fn first cap) w := fun _ _ _ _ => rfl
      have hB3 : Below w2.heap.size w2 (w2.alloc (.cells #[.int .i64 0, .int .i64 0, .int .i64 0, .int .i64 0, .int .i64 (T : Nat), .slice (some ⟨b', 0, none⟩) M capk] 50)) := (Below.refl _ _).alloc (Nat.le_refl _) _
      have CT := cel_new w2 #[.int .i64 0, .int .i64 0, .int .i64 0, .int .i64 0, .int .i64 (T : Nat), .slice (some ⟨b', 0, none⟩) M capk] 50
      have S3 : (w2.alloc (.cells #[.int .i64 0, .int .i64 0, .int .i64 0, .int .i64 0, .int .i64 (T : Nat), .slice (some ⟨b', 0, none⟩) M capk] 50)).heap.size = w2.heap.size + 1 := by simp
      have HB3 := Lib.hid hB3
      have HCT := Lib.hid CT
      have HS3 := Lib.hid S3
      have HN2 := Lib.hid hn2
      have HN1 := Lib.hid hn1
      have HCC := Lib.hid hcc
      clear hB3 CT S3 hn1 hn2 hn3 hcc
      go_wp2_with fail
      have hB3 := HB3.out
      have CT := HCT.out
      have S3 := HS3.out
      generalize w2.alloc (.cells #[.int .i64 0, .int .i64 0, .int .i64 0, .int .i64 0, .int .i64 (T : Nat), .slice (some ⟨b', 0, none⟩) M capk] 50) = w3 at *
      have hmc : cols.length = T := by have := HM.out; omega
      have HMC := Lib.hid hmc
      have hB03 : Below w.heap.size w w3 := HB2.out.trans (hB3.mono hs2)
      refine (clone_any w3 cb co ccap T news hT0 hT12 (by rw [HN1.out, hmc]) (fun i hi => (hB03.cell (p := ⟨cb, co + i, none⟩) hcb).trans (HCC.out i (by omega))) (fun u hu => by
        obtain ⟨i, hi, rfl⟩ := List.mem_iff_getElem.1 hu
        obtain ⟨xa, xc, e, -⟩ := HN2.out i (by have := HN1.out; omega)
        have : news.getD i undef = news[i] := by simp [List.getD, List.getElem?_eq_getElem hi]
        rw [← this, e]; rfl) (by omega)).mono ?_
      rintro e w4 ⟨g, c, cur, rfl, hg, hcg, hNc, hcM, hcs, hct, hb4⟩
      have hgl := hcg.lt
      have hs4 := hb4.size
      clear hmc
      have HGG := Lib.hid hcg
      have HB4 := Lib.hid hb4
      have HCTT := Lib.hid (CT.next hb4)
      clear hcg hb4 CT hB3
      have hA1 : Below w4.heap.size w4 (w4.alloc (.cells #[.slice (some ⟨g, 0, none⟩) T c, .slice none 0 0] 66)) := (Below.refl _ _).alloc (Nat.le_refl _) _
      have CS := cel_new w4 #[.slice (some ⟨g, 0, none⟩) T c, .slice none 0 0] 66
      have hs5 : (w4.alloc (.cells #[.slice (some ⟨g, 0, none⟩) T c, .slice none 0 0] 66)).heap.size = w4.heap.size + 1 := by simp
      have hA2 : Below (w4.alloc (.cells #[.slice (some ⟨g, 0, none⟩) T c, .slice none 0 0] 66)).heap.size (w4.alloc (.cells #[.slice (some ⟨g, 0, none⟩) T c, .slice none 0 0] 66)) ((w4.alloc (.cells #[.slice (some ⟨g, 0, none⟩) T c, .slice none 0 0] 66)).alloc (.cells #[.slice none 0 0] 23)) := (Below.refl _ _).alloc (Nat.le_refl _) _
      have CQ := cel_new1 w4 (.cells #[.slice (some ⟨g, 0, none⟩) T c, .slice none 0 0] 66) #[.slice none 0 0] 23
      have HA := Lib.hid (And.intro hA1 (And.intro CS (And.intro hs5 (And.intro hA2 CQ))))
      clear hA1 CS hs5 hA2 CQ
      go_wp2_with fail
      obtain ⟨hA1, CS, hs5, hA2, CQ⟩ := HA.out
      clear HA
      have CS6 := CS.next hA2
      have h46 : Below w4.heap.size w4 ((w4.alloc (.cells #[.slice (some ⟨g, 0, none⟩) T c, .slice none 0 0] 66)).alloc (.cells #[.slice none 0 0] 23)) := hA1.trans (hA2.mono (by omega))
      have hs6 : ((w4.alloc (.cells #[.slice (some ⟨g, 0, none⟩) T c, .slice none 0 0] 66)).alloc (.cells #[.slice none 0 0] 23)).heap.size = w4.heap.size + 2 := by simp
      clear CS hA1 hA2 hs5
      generalize (w4.alloc (.cells #[.slice (some ⟨g, 0, none⟩) T c, .slice none 0 0] 66)).alloc (.cells #[.slice none 0 0] 23) = w6 at *
      have h36 : Below w3.heap.size w3 w6 := HB4.out.trans (h46.mono hs4)
      have h06 : Below w.heap.size w w6 := hB03.trans (h36.mono (by have := hB03.size; omega))
      have h26 : Below w2.heap.size w2 w6 := HB3.out.trans (h36.mono (by omega))
      have AH : Ahd w6 w3.heap.size w4.heap.size g T c cols cur.toList (.slice none 0 0) := by
        refine ⟨CS6, by rw [Array.toArray_toList]; exact HGG.out.next h46, by rw [Array.length_toList, hcs]; exact hNc, HMC.out, fun i hi => ?_, ⟨hs4, hg, by omega⟩, ⟨hT12, hNc⟩⟩
        have e1 : cur.toList.getD i undef = news.getD i undef := by
          rw [← hct]; simp [List.getD, hi]
        rw [e1]
        exact ((HN2.out i (by rw [HMC.out]; exact hi)).below h06).mono (by have := hB03.size; omega)
      have K6 : KidsOf w6 (fun i => i < w3.heap.size) k (.slice (some ⟨b', 0, none⟩) M capk) 0 0 0 := (HKV.out.wider (S' := fun i => i < w2.heap.size) (fun i h => h.2)).keep (fun i (hi : i < w2.heap.size) => h26.block i hi) |>.wider (fun i h => by omega)
      have TB6 : Cel w6 w2.heap.size (nx 0 0 0 0 k (.slice (some ⟨b', 0, none⟩) M capk)).toArray 50 := by
        have e1 : (nx 0 0 0 0 k (.slice (some ⟨b', 0, none⟩) M capk)).toArray = #[.int .i64 0, .int .i64 0, .int .i64 0, .int .i64 0, .int .i64 (T : Nat), .slice (some ⟨b', 0, none⟩) M capk] := by
          simp only [nx, dn, rn, Nat.zero_add, if_true]; rw [← HTk.out]; rfl
        rw [e1]; exact HCTT.out.next h46
      refine (tried_asm w6 w3.heap.size w4.heap.size g T c cols cur.toList (.slice none 0 0) AH hT0 k (.slice (some ⟨b', 0, none⟩) M capk) K6 hk hko.2.2.1 hKs HTk.out.symm w2.heap.size (w4.heap.size + 1) TB6 CQ ⟨by omega, by omega⟩).mono ?_
      rintro e w7 ⟨hkp, hm7⟩
      have HBF := Lib.hid (show Below w.heap.size w w7 from h06.trans (hkp.below (by have := h06.size; omega) (fun i hi h => by have := hB03.size; rcases h with h | h | h <;> omega)))
      obtain ⟨U, hU⟩ : ∃ U, Sh.asR k cols = U := ⟨_, rfl⟩
      have HRE2 := HRE.out
      rw [hU] at HRE2 hm7
      have hw06 : w.heap.size ≤ w6.heap.size := h06.size
      cases U with
      | none =>
        obtain ⟨rfl, hq⟩ := hm7
        have q0 : w7.cell? ⟨w4.heap.size + 1, 0, none⟩ = some (.slice none 0 0) := hq.c 0
        have HRE3 := Lib.hid HRE2
        clear HRE2 hU hq hkp CQ AH K6 TB6 CS6 h46 hs6 h36 h06 h26
        go_wp2_with fail
        obtain rfl := HRE3.out
        exact bodyPost_ret (v := .tuple #[.slice none 0 0, .int .i64 1]) (by simp [results, Try.results18, go_sem]) rfl ⟨HBF.out, rfl⟩
      | some outs =>
        obtain ⟨rfl, ov, rvs, hq, ho⟩ := hm7
        have q0 : w7.cell? ⟨w4.heap.size + 1, 0, none⟩ = some ov := hq.c 0
        have HRE3 := Lib.hid HRE2
        have HO := Lib.hid ho
        clear HRE2 hU hq hkp CQ AH K6 TB6 CS6 h46 hs6 h36 h06 h26 ho
        go_wp2_with fail
        obtain rfl := HRE3.out
        exact bodyPost_ret (v := .tuple #[ov, .int .i64 0]) (by simp [results, Try.results18, go_sem]) rfl ⟨HBF.out, ov, rvs, w4.heap.size, g, rfl, HO.out.mono hw06⟩
    · have hmI : ((m : Int) != (T : Int)) = true := by rw [bne_iff_ne]; omega
      have HRE := Lib.hid (show R = .error 1 by
        rw [← HR.out]; unfold Sh.asmbl
        rw [if_neg (by rw [HC0.out]; simp), Sh.formK_is HFL.out, if_pos (by rw [← HM.out, ← HTk.out]; exact hmT)])
      go_wp2_with fail
      obtain rfl := HRE.out
      exact bodyPost_ret (v := .tuple #[.slice none 0 0, .int .i64 1]) (by simp [results, Try.results18, go_sem]) rfl ⟨HB2.out.alloc HB2.out.size _, rfl⟩
end Go.Proofs.Ytjfkoledbegpfaa
