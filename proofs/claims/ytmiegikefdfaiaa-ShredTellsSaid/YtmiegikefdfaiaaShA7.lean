/- The walk of the assembler's records. -/
import Derived.Test.YtmiegikefdfaiaaShA6
namespace Go.Proofs.Ytmiegikefdfaiaa
open Go.RowKit
open Sh (Lv)
set_option linter.unusedVariables false

theorem wpList_append_nrow {w : World} {ops : Array Oper} {rest : List Oper} {o : Oper} {a : Act} {Q : Exit → Act → World → Prop} (hgd : o.guard = none) (s x : Operand)
    (ho : o.op = .call { callee := .builtin .append, args := #[s, x], argTypes := #[23, 23] }) (base : Nat)
    (v : Value) (n : Nat) (xs : List Value) (hs : a.eval s = v) (hown : w.ownsRow base 47 1 v n xs)
    (g : Nat) (y : Value) (hx : a.eval x = .slice (some ⟨g, 0, none⟩) 1 1) (hc : w.heap[g]? = some (.cells #[y] 47 (0, 0))) (hy : y.oneCell' = true)
    (hbytes : (n + 1) * 24 ≤ 140737488355328) (hbase : base ≤ w.heap.size)
    (h : ∀ g' cap w', w'.ownsRow base 47 1 (.slice (some ⟨g', 0, none⟩) (n + 1) cap) (n + 1) (xs ++ [y]) → w.grownBy w' v.ownBlock → (v.ownBlock = some g' ∨ g' = w.heap.size) → g' < w'.heap.size → wpList Try.prog ops Q rest (a.put o.dst (.slice (some ⟨g', 0, none⟩) (n + 1) cap)) w') : wpList Try.prog ops Q (o :: rest) a w := by
  obtain ⟨i, hi, hz0, hz1, hz2⟩ := info_parts info_nums
  refine wpList_append_lies w hgd s x 23 ho base 47 i (.slice none 0 0) 1 24 Try.underlying23 hi hz0 hz1 hz2 rfl (by decide) v n xs hs hown ⟨g, 0, none⟩ 1 1 [y] hx rfl ?_ ?_ (by omega) (by unfold maxLen; omega) hbytes hbase w.heap.size rfl (fun g' cap w' h1 h2 h3 h4 => h g' cap w' h1 h2 h3 h4)
  · exact World.news_of_block hc
  · intro u hu; simp at hu; subst hu; exact hy

def lenSl : Value → Nat
  | .slice _ n _ => n
  | _ => 0
def RecsPost (w : World) (S C : Nat) (R : Option (List (List Nat))) (e : Ending) (w' : World) : Prop :=
  Fr S C w w' [] [] ∧ match R with
  | none => e = gaveUp 1
  | some outs => ∃ ov rvs, e = .returned ov ∧ Outs w' w.heap.size S C ov rvs outs

set_option maxHeartbeats 4000000 in
set_option maxRecDepth 100000 in
theorem arecords_any (w : World) (B S C N cN : Nat) (lefts : List (List Lv)) (vs : List Value) (v : Value) (h : Ahd w B S C N cN lefts vs v) (hN1 : 0 < N)
    (k : Sh.F) (kv : Value) (hk : KidsOf w (fun i => i < B) k kv 0 0 0) (hne : k ≠ .nil) (hok : Sh.ok k) (hsz : Sh.size k ≤ 500) (hN : lv1 k = N) :
    Calls Try.prog 35 #[.pointer (some ⟨S, 0, none⟩), nag 0 0 0 0 k kv] w (RecsPost w S C (Sh.asR k lefts)) := by
  obtain ⟨R, hR⟩ : ∃ R, Sh.asR k lefts = R := ⟨_, rfl⟩
  rw [hR]
  have HR := Lib.hid hR
  have HS := Lib.hid h
  have HK := Lib.hid hk
  have HN := Lib.hid hN
  obtain ⟨b', capk, M, hkv⟩ : ∃ b' capk M, kv = .slice (some ⟨b', 0, none⟩) M capk := by
    rcases hk with ⟨h1, -⟩ | ⟨-, b', capk, h1, -⟩
    · exact absurd h1 hne
    · exact ⟨_, _, _, h1⟩
  subst hkv
  obtain ⟨T, hT⟩ : ∃ T, T = lv1 k := ⟨_, rfl⟩
  have HT := Lib.hid hT
  simp only [nag, nx, dn, rn, Nat.zero_add, if_true, Int.natCast_zero]
  rw [← hT]
  have hSl := h.s.lt
  have hCl := h.c.lt
  have hBS := h.bs
  clear h hk hR hT hN
  go_enter Try.func35, Try.ntmps35
  go_wp2_with fail
  have C1 := cel_new w #[.int .i64 0, .int .i64 0, .int .i64 0, .int .i64 0, .int .i64 (T : Nat), .slice (some ⟨b', 0, none⟩) M capk] 50
  have hb1 := (Below.refl w.heap.size w).alloc (Nat.le_refl _) (.cells #[.int .i64 0, .int .i64 0, .int .i64 0, .int .i64 0, .int .i64 (T : Nat), .slice (some ⟨b', 0, none⟩) M capk] 50)
  have S1 : (w.alloc (.cells #[.int .i64 0, .int .i64 0, .int .i64 0, .int .i64 0, .int .i64 (T : Nat), .slice (some ⟨b', 0, none⟩) M capk] 50)).heap.size = w.heap.size + 1 := by simp
  generalize w.alloc (.cells #[.int .i64 0, .int .i64 0, .int .i64 0, .int .i64 0, .int .i64 (T : Nat), .slice (some ⟨b', 0, none⟩) M capk] 50) = w1 at *
  have HC1 := Lib.hid C1
  have HB1 := Lib.hid hb1
  have HS1 := Lib.hid S1
  have HH1 := Lib.hid (HS.out.next hb1)
  have HF1 := Lib.hid (Fr.of_below (S := S) (C := C) (vs := []) hb1)
  clear C1 hb1
  go_loopw [5] (fun x wr => ∃ (q : Nat) (lf : List (List Lv)) (vs' : List Value) (v' ov : Value) (rvs : List Value) (outs : List (List Nat)), x = ov ∧ outs.length + q = 8 ∧ Fr S C w1 wr [] [] ∧ Ahd wr B S C N cN lf vs' v' ∧ Outs wr w1.heap.size S C ov rvs outs ∧ Hid ((Sh.asmR k q lf outs).bind (fun x => if ∀ l ∈ x.1, l = [] then some x.2 else none) = R)) (fun x _ => 9 - lenSl x)
  case atStart => exact ⟨8, lefts, vs, v, _, [], [], rfl, rfl, Fr.refl _ _ _ _, HH1.out, outs_nil _ _ _ _, Lib.hid HR.out⟩
  case round =>
    obtain ⟨q, lf, vs', v', ov, rvs, outs, rfl, hq8, hfr2, hah, hout, HQ⟩ := hrel
    rename World => wr
    have hnF : ¬ Out S C [] w.heap.size := fun e => by have := out_nil e; omega
    have CF := HC1.out.fr hnF hfr2
    obtain ⟨aa, ca, rfl⟩ := rv_form hout.o
    have s0 : wr.cell? ⟨S, 0, none⟩ = some (.slice (some ⟨C, 0, none⟩) N cN) := hah.s.c 0
    obtain ⟨a0, cap0, hv0, hlv0, hl10, hl20, -⟩ := hah.lv 0 hN1
    obtain ⟨l0, hl0⟩ : ∃ l0, lf.getD 0 [] = l0 := ⟨_, rfl⟩
    rw [hl0] at hv0 hl10 hlv0
    have cc : wr.cell? ⟨C, 0, none⟩ = some (.slice a0 l0.length cap0) := by
      rw [hah.c.c 0, ← hv0]
      have : 0 < vs'.length := Nat.lt_of_lt_of_le hN1 hah.vl
      simp [List.getD, List.getElem?_eq_getElem this]
    have hNN := hah.nb
    have hNI : (0 : Int) < (N : Int) := by omega
    have HF2 := Lib.hid hfr2
    have HA2 := Lib.hid hah
    have HO2 := Lib.hid hout
    have HL0 := Lib.hid hl0
    obtain ⟨n0, hn0⟩ : ∃ n0, outs.length = n0 := ⟨_, rfl⟩
    rw [hn0]
    rw [hn0] at hq8
    have HN0 := Lib.hid hn0
    clear hfr2 hah hout hv0 hlv0 hl10 hl20 hl0 hn0
    cases l0 with
    | nil =>
      simp only [List.length_nil] at cc
      have hRR : R = if ∀ l ∈ lf, l = [] then some outs else none := by
        rw [← HQ]
        cases q with
        | zero => unfold Sh.asmR; rw [if_pos HL0.out]; rfl
        | succ q => unfold Sh.asmR; rw [if_pos HL0.out]; rfl
      have HRR := Lib.hid hRR
      clear hRR
      go_wp2_with fail
      go_loopw [39] (fun i wq => ∃ j : Nat, j ≤ N ∧ i = .int .i64 j ∧ wq = wr ∧ ∀ t, t < j → lf.getD t [] = []) (fun i _ => N - (intOf i).toNat)
      case atStart => exact ⟨0, Nat.zero_le _, rfl, rfl, fun t ht => absurd ht (Nat.not_lt_zero _)⟩
      case round =>
        obtain ⟨j, hjN, rfl, rfl, hall⟩ := hrel
        rename World => wq
        by_cases hj : j = N
        · subst hj
          obtain rfl : R = some outs := by
            rw [HRR.out, if_pos]
            intro l hl
            obtain ⟨t, ht, rfl⟩ := List.mem_iff_getElem.1 hl
            have := hall t (by have := HA2.out.cl; omega)
            simpa [List.getD, List.getElem?_eq_getElem ht] using this
          have hjI : ¬ (j : Int) < (j : Int) := by omega
          go_wp2_with fail
          go_ret
          refine ⟨HF1.out.trans HF2.out, _, rvs, rfl, ?_⟩
          have h := HO2.out.mono (G' := w.heap.size) (by have := HS1.out; omega)
          rw [← HN0.out]; exact h
        · have hjI : (j : Int) < (N : Int) := by omega
          obtain ⟨aj, capj, hvj, hlvj, hl1j, hl2j, -⟩ := HA2.out.lv j (by omega)
          obtain ⟨lj, hlj⟩ : ∃ lj, lf.getD j [] = lj := ⟨_, rfl⟩
          rw [hlj] at hvj
          have cj : wq.cell? ⟨C, j, none⟩ = some (.slice aj lj.length capj) := by
            rw [HA2.out.c.c j, ← hvj]
            have : j < vs'.length := Nat.lt_of_lt_of_le (by omega) HA2.out.vl
            simp [List.getD, List.getElem?_eq_getElem this]
          have hjN2 : j ≤ N := hjN
          clear hvj hlvj hl1j hl2j
          cases lj with
          | nil =>
            simp only [List.length_nil] at cj
            have HLJ := Lib.hid hlj
            clear hlj
            go_wp2_with fail
            refine ⟨⟨j + 1, by omega, by go_num, trivial, fun t ht => ?_⟩, ?_⟩
            · by_cases e : t = j
              · rw [e]; exact HLJ.out
              · exact hall t (by omega)
            · simp [intOf]; omega
          | cons y t =>
            simp only [List.length_cons] at cj
            have hIj : (0 : Int) < ((t.length + 1 : Nat) : Int) := by omega
            obtain rfl : R = none := by
              rw [HRR.out, if_neg]
              intro hz
              have hjl : j < lf.length := by have := HA2.out.cl; omega
              have h1 := hz (lf[j]) (List.getElem_mem _)
              have h2 : lf.getD j [] = lf[j] := by simp [List.getD, List.getElem?_eq_getElem hjl]
              rw [← h2, hlj] at h1; cases h1
            clear hlj
            go_wp2_with fail
            refine And.intro rfl ?_
            exact (⟨HF1.out.trans HF2.out, rfl⟩ : RecsPost w S C none (gaveUp 1) wq)
    | cons x0 t0 =>
      have hI0 : (0 : Int) < ((t0.length + 1 : Nat) : Int) := by omega
      simp only [List.length_cons] at cc
      cases q with
      | zero =>
        obtain rfl : R = none := by
          rw [← HQ]; unfold Sh.asmR; rw [if_neg (by rw [HL0.out]; simp)]; rfl
        have h8 : ((n0 : Int) == 8) = true := by rw [beq_iff_eq]; omega
        go_wp2_with fail
        refine And.intro rfl ?_
        exact (⟨HF1.out.trans HF2.out, rfl⟩ : RecsPost w S C none (gaveUp 1) wr)
      | succ q =>
        have h8 : ((n0 : Int) == 8) = false := by rw [beq_eq_false_iff_ne]; omega
        have sz1 := HA2.out.s.free 1
        have s1 : wr.cell? ⟨S, 1, none⟩ = some v' := HA2.out.s.c 1
        have hBw1 : B ≤ wr.heap.size := by have := HA2.out.bs; have := HA2.out.s.lt; omega
        have g0 : wr.cell? ⟨w.heap.size, 0, none⟩ = some (.int .i64 0) := CF.c 0
        have g1 : wr.cell? ⟨w.heap.size, 1, none⟩ = some (.int .i64 0) := CF.c 1
        have g2 : wr.cell? ⟨w.heap.size, 2, none⟩ = some (.int .i64 0) := CF.c 2
        have g3 : wr.cell? ⟨w.heap.size, 3, none⟩ = some (.int .i64 0) := CF.c 3
        have g4 : wr.cell? ⟨w.heap.size, 4, none⟩ = some (.int .i64 (T : Nat)) := CF.c 4
        have g5 : wr.cell? ⟨w.heap.size, 5, none⟩ = some (.slice (some ⟨b', 0, none⟩) M capk) := CF.c 5
        have hSF : ¬ S = w.heap.size := by omega
        have D0 := HA2.out.reset
        have KW : KidsOf (wr.setCell ⟨S, 1, none⟩ (.slice none 0 0)) (fun i => i < B) k (.slice (some ⟨b', 0, none⟩) M capk) 0 0 0 := HK.out.keep (fun i (hi : i < B) => by
          rw [heap_set_ne _ _ _ _ _ (by omega), HF2.out.block i (by have := HS1.out; omega) (fun e => by have := out_nil e; omega)]
          exact HB1.out.block i (by omega))
        have HCL := aalong_any B S C N cN (Sh.size k + 1) 0 k 0 0 0 0 (.slice (some ⟨b', 0, none⟩) M capk) (wr.setCell ⟨S, 1, none⟩ (.slice none 0 0)) lf vs' [] (.slice none 0 0) (Nat.lt_succ_self _) (by omega) hok (by omega) (by omega) (by omega) (by have := HN.out; omega) D0 KW
        simp only [nag, nx, dn, rn, Nat.zero_add, if_true] at HCL
        rw [← HT.out] at HCL
        have HCC := Lib.hid HCL
        have HSZ := Lib.hid (show (wr.setCell ⟨S, 1, none⟩ (.slice none 0 0)).heap.size = wr.heap.size by simp [World.setCell])
        clear HCL D0 KW
        go_wp2_with fail
        refine HCC.out.mono ?_
        rintro e w5 ⟨rv5, hfr5, hm⟩
        obtain ⟨X, hX⟩ : ∃ X, Sh.al1 Sh.asW 0 k 0 0 0 0 (lf, []) = X := ⟨_, rfl⟩
        have hRX : (X.bind fun st => Sh.asmR k q st.1 (outs ++ [st.2])).bind (fun x => if ∀ l ∈ x.1, l = [] then some x.2 else none) = R := by
          rw [← HQ, ← hX]
          conv => rhs; unfold Sh.asmR
          rw [if_neg (by rw [HL0.out]; simp)]
        rw [hX] at hm
        have hF5 : Fr S C w1 w5 [] [] := (HF2.out.setS 1 _).trans (hfr5.forget rfl)
        cases X with
        | none =>
          obtain rfl := hm
          obtain rfl : R = none := hRX.symm
          refine And.intro rfl ?_
          exact (⟨HF1.out.trans hF5, rfl⟩ : RecsPost w S C none (gaveUp 1) w5)
        | some st =>
          obtain ⟨rfl, vs5, hsd5⟩ := hm
          obtain ⟨aa5, ca5, hrv5⟩ := rv_form hsd5.own
          subst hrv5
          have s15 : w5.cell? ⟨S, 1, none⟩ = some (.slice aa5 st.2.length ca5) := hsd5.s.c 1
          have hwr5 : wr.heap.size ≤ w5.heap.size := by have := hfr5.size; have := HSZ.out; omega
          have h1r : w1.heap.size ≤ wr.heap.size := HF2.out.size
          have hk5 : ∀ i, i < wr.heap.size → i ≠ S → i ≠ C → w5.heap[i]? = wr.heap[i]? := fun i hi h1 h2 => by
            rw [(hfr5.forget rfl).block i (by rw [HSZ.out]; exact hi) (fun e => by rcases out_nil e with e | e <;> omega), heap_set_ne _ _ _ _ _ (Ne.symm h1)]
          have hO5 := HO2.out.keep hk5
          have hrb : ∀ b, (Value.slice aa5 st.2.length ca5).ownBlock = some b → wr.heap.size ≤ b := fun b hb => by
            rcases Nat.lt_or_ge b wr.heap.size with hlt | hge
            · have h3 := hfr5.own b (by rw [HSZ.out]; exact hlt) (out_own hb)
              rcases h3 with e | e | ⟨j, hj⟩
              · exact absurd (e ▸ hb) hsd5.far.1
              · exact absurd (e ▸ hb) hsd5.far.2
              · have hj2 := getD_lt hj
                have : j = 0 := by simp at hj2; omega
                subst this
                cases hj
            · exact hge
          have hb5 := (Below.refl w5.heap.size w5).alloc (Nat.le_refl _) (.cells #[.slice aa5 st.2.length ca5] 47)
          have hO6 := hO5.keep (w' := w5.alloc (.cells #[.slice aa5 st.2.length ca5] 47)) (fun i hi _ _ => heap_alloc_old _ _ hi)
          have own6 := World.ownsRow.alloc (own_base (G := w1.heap.size) hsd5.own (fun i hi => Nat.le_trans h1r (hrb i hi))) (.cells #[.slice aa5 st.2.length ca5] 47)
          have hol : (w5.alloc (.cells #[.slice aa5 st.2.length ca5] 47)).ownsRow w1.heap.size 47 1 (.slice aa n0 ca) n0 rvs := by
            have := hO6.o; rw [HN0.out] at this; exact this
          have hlb : (n0 + 1) * 24 ≤ 140737488355328 := by omega
          have hbase : w1.heap.size ≤ (w5.alloc (.cells #[.slice aa5 st.2.length ca5] 47)).heap.size := by simp; omega
          have HD5 := Lib.hid hsd5
          have HFR5 := Lib.hid hF5
          have HK5 := Lib.hid hrb
          have HRX := Lib.hid hRX
          have HO6 := Lib.hid hO6
          have HOL := Lib.hid hol
          have HW6 := Lib.hid own6
          clear hsd5 hF5 hrb hRX hO5 hO6 hol own6 hk5 hX HCC hfr5 hb5
          go_wp2_with (at_builtin; refine wpList_append_nrow rfl (.tmp 27) (.tmp 32) rfl w1.heap.size (.slice aa n0 ca) n0 rvs rfl HOL.out w5.heap.size (.slice aa5 st.2.length ca5) rfl (heap_alloc_new w5 _) rfl hlb hbase ?_; intro g6 cap6 w6 hown6 hg6 hor6 hlt6)
          have HG6 := Lib.hid (show (w5.alloc (.cells #[.slice aa5 st.2.length ca5] 47)).grownBy w6 (Value.slice aa n0 ca).ownBlock from hg6)
          have HOR6 := Lib.hid hor6
          have HOW6 := Lib.hid hown6
          clear hg6 hor6 hown6
          refine ⟨⟨_, _, _, _, _, _, _, _, _, _, _, _, _, _, _, _, _, _, _, _, _, _, _, _, _, _, _, ⟨q, st.1, vs5, .slice aa5 st.2.length ca5, .slice (some ⟨g6, 0, none⟩) (n0 + 1) cap6, rvs ++ [.slice aa5 st.2.length ca5], outs ++ [st.2], rfl, by rw [List.length_append]; simp only [List.length_cons, List.length_nil]; have := HN0.out; omega, ?_, ?_, ?_, ?_⟩, rfl⟩, ?_⟩
          · exact (HFR5.out.alloc _).grown HG6.out (fun k hk => (HOL.out.lt k hk).1)
          · have hA := HD5.out.hd.next ((Below.refl w5.heap.size w5).alloc (Nat.le_refl _) (.cells #[.slice aa5 st.2.length ca5] 47))
            have hS := HD5.out.s.lt
            have hC := HD5.out.c.lt
            refine hA.kept ⟨HG6.out.os, HG6.out.tape, HG6.out.output, HG6.out.size, fun i hi => HG6.out.block i (by simp; omega) (fun e => by have := (HOL.out.lt i e.symm).1; omega)⟩ ?_ ?_
            · exact HG6.out.block S (by simp; omega) (fun e => HO6.out.fo.1 (by rw [HN0.out]; exact e.symm))
            · exact HG6.out.block C (by simp; omega) (fun e => HO6.out.fo.2 (by rw [HN0.out]; exact e.symm))
          · have hS := HD5.out.s.lt
            have hC := HD5.out.c.lt
            have hO := HO6.out
            have hn := HN0.out
            subst hn
            exact hO.snoc HW6.out HD5.out.far (fun j b e e2 => by
                have h1 := HK5.out b e2
                by_cases hj : j < outs.length
                · have := ((HO2.out.r j hj).lt b e).2; omega
                · have hr := HO2.out.rl
                  rw [show rvs.getD j undef = undef by simp [List.getD, List.getElem?_eq_none (show rvs.length ≤ j by omega)]] at e
                  cases e)
              (fun b e e2 => by
                have h1 := HK5.out b e
                have := (HO2.out.o.lt b e2).2; omega) HOW6.out HG6.out (by
                rcases HOR6.out with e | e
                · exact Or.inl e
                · exact Or.inr (Nat.le_of_eq e.symm)) ⟨by simp; omega, by simp; omega⟩
          · exact HRX.out
          · show 9 - (n0 + 1) < 9 - n0
            omega
end Go.Proofs.Ytmiegikefdfaiaa
