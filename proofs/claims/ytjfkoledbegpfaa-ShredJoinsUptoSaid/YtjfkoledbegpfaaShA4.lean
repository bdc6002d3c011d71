/- The walk of shred.along with an assembler. -/
import Derived.Test.YtjfkoledbegpfaaShA3
namespace Go.Proofs.Ytjfkoledbegpfaa
open Go.RowKit
open Sh (Lv lsum len_lsum)
set_option linter.unusedVariables false

theorem lv1_pos (k : Sh.F) : 0 < lv1 k := by
  induction k with
  | nil => exact Nat.one_pos
  | cons r k s hk hs =>
    show 0 < Sh.leaves (.cons r k s)
    rw [leaves_cons]; omega

theorem method_alevel (rv : Value) (k : Nat) (w : World) : (method (k + 1) 84 rv "hypostyle/shred.level").run Try.prog w = .ok (66, rv) w := by kernel_rfl
theorem method_aoften (rv : Value) (k : Nat) (w : World) : (method (k + 1) 84 rv "hypostyle/shred.often").run Try.prog w = .ok (67, rv) w := by kernel_rfl

set_option maxHeartbeats 2000000 in
set_option maxRecDepth 100000 in
theorem aalong_any (B S C N cN : Nat) (n : Nat) : ∀ (r : Nat) (k : Sh.F) (d p c rep : Nat) (kv : Value) (w : World) (lefts : List (List Lv)) (vs : List Value) (rec : List Nat) (rv : Value),
    Sh.size k < n → r ≤ 2 → Sh.ok k → d + n ≤ 1000 → p + n ≤ 1000 → rep ≤ 1000 → c + lv1 k ≤ N → Asd w B S C N cN lefts vs rec rv → KidsOf w (fun i => i < B) k kv (dn r d) (rn r p) c →
    Calls Try.prog 42 #[.iface 84 (.pointer (some ⟨S, 0, none⟩)), nag r d p c k kv, .int .i64 (rep : Nat)] w (AsPost w B S C N cN (Sh.al1 Sh.asW r k d p c rep (lefts, rec)) rv) := by
  induction n with
  | zero => intro r k d p c rep kv w lefts vs rec rv h; omega
  | succ m ih =>
    intro r k d p c rep kv w lefts vs rec rv hsz hr hok hd hp hrep hcN h hkv
    have IH := Lib.hid ih
    have HS := Lib.hid h
    have HK := Lib.hid hkv
    have o5 := hkv.one
    obtain ⟨D, hD⟩ : ∃ D, D = dn r d := ⟨_, rfl⟩
    obtain ⟨P, hP⟩ : ∃ P, P = rn r p := ⟨_, rfl⟩
    have hDb : D ≤ d + 1 := by rw [hD]; unfold dn; split <;> omega
    have hPb : P ≤ p + 1 := by rw [hP]; unfold rn; split <;> omega
    unfold nag nx
    rw [← hD, ← hP]
    have hDP := Lib.hid (And.intro hD hP)
    have hml := method_alevel (.pointer (some ⟨S, 0, none⟩))
    have hmo := method_aoften (.pointer (some ⟨S, 0, none⟩))
    have hcl : ∀ (args : Array Value) (w : World), (callFunc 66 args).run Try.prog w = .ok (.enter 66 args) w := fun _ _ => rfl
    have hco : ∀ (args : Array Value) (w : World), (callFunc 67 args).run Try.prog w = .ok (.enter 67 args) w := fun _ _ => rfl
    clear ih h hkv hD hP
    have hBw : B ≤ w.heap.size := Nat.le_trans HS.out.bs.1 (Nat.le_of_lt HS.out.s.lt)
    obtain ⟨T, hT⟩ : ∃ T, T = c + lv1 k := ⟨_, rfl⟩
    rw [← hT] at hcN ⊢
    have HTT := Lib.hid hT
    clear hT
    have hcN2 : c < N := by have := HTT.out; have := lv1_pos k; omega
    have HOK := Lib.hid hok
    clear hok
    obtain ⟨R, hR⟩ : ∃ R, Sh.al1 Sh.asW r k d p c rep (lefts, rec) = R := ⟨_, rfl⟩
    rw [hR]
    have HRT0 := Lib.hid hR
    clear hR
    cases k with
    | nil =>
      obtain rfl : kv = .slice none 0 0 := by
        rcases HK.out with ⟨-, h⟩ | ⟨h, -⟩
        · exact h
        · exact absurd rfl h
      by_cases h0 : r = 0
      · subst h0
        simp only [Int.natCast_zero]
        go_enter Try.func42, Try.ntmps42
        go_wp2_with fail
        have C1 := cel_new w #[.int .i64 0, .int .i64 (D : Nat), .int .i64 (P : Nat), .int .i64 (c : Nat), .int .i64 (T : Nat), (.slice none 0 0)] 50
        have H1 := HS.out.next ((Below.refl _ _).alloc (Nat.le_refl _) (.cells #[.int .i64 0, .int .i64 (D : Nat), .int .i64 (P : Nat), .int .i64 (c : Nat), .int .i64 (T : Nat), (.slice none 0 0)] 50))
        have R1 := (Fr.refl S C w [rv]).alloc (.cells #[.int .i64 0, .int .i64 (D : Nat), .int .i64 (P : Nat), .int .i64 (c : Nat), .int .i64 (T : Nat), (.slice none 0 0)] 50)
        have S1 : (w.alloc (.cells #[.int .i64 0, .int .i64 (D : Nat), .int .i64 (P : Nat), .int .i64 (c : Nat), .int .i64 (T : Nat), (.slice none 0 0)] 50)).heap.size = w.heap.size + 1 := by simp
        have K1 := HK.out.keep (fun i (hi : i < B) => heap_alloc_old w (.cells #[.int .i64 0, .int .i64 (D : Nat), .int .i64 (P : Nat), .int .i64 (c : Nat), .int .i64 (T : Nat), (.slice none 0 0)] 50) (Nat.lt_of_lt_of_le hi hBw))
        have hno : ¬ Out S C [rv] w.heap.size := fun e => by have := (HS.out.out e).2; omega
        generalize w.alloc (.cells #[.int .i64 0, .int .i64 (D : Nat), .int .i64 (P : Nat), .int .i64 (c : Nat), .int .i64 (T : Nat), (.slice none 0 0)] 50) = w1 at *
        have HC1 := Lib.hid C1
        have HH1 := Lib.hid H1
        have HR1 := Lib.hid R1
        have HK1 := Lib.hid K1
        have HS1 := Lib.hid S1
        clear C1 H1 R1 S1 K1
        have f0 : w1.cell? ⟨w.heap.size, 0, none⟩ = some (.int .i64 0) := HC1.out.c 0
        have f1 : w1.cell? ⟨w.heap.size, 1, none⟩ = some (.int .i64 (D : Nat)) := HC1.out.c 1
        have f2 : w1.cell? ⟨w.heap.size, 2, none⟩ = some (.int .i64 (P : Nat)) := HC1.out.c 2
        have f3 : w1.cell? ⟨w.heap.size, 3, none⟩ = some (.int .i64 (c : Nat)) := HC1.out.c 3
        have f4 : w1.cell? ⟨w.heap.size, 4, none⟩ = some (.int .i64 (T : Nat)) := HC1.out.c 4
        have f5 : w1.cell? ⟨w.heap.size, 5, none⟩ = some (.slice none 0 0) := HC1.out.c 5
        have HF1 := Lib.hid (Fr.refl S C w1 [rv])
        have HD1 := HH1
        have HT := Lib.hid (show Sh.times (Sh.body Sh.asW .nil D P c) 1 rep P (lefts, rec) = R by
          have := HRT0.out
          rw [Sh.al1_req] at this
          have e1 := hDP.out.1
          have e2 := hDP.out.2
          rw [show dn 0 d = d from rfl] at e1
          rw [show rn 0 p = p from rfl] at e2
          rw [e1, e2]; exact this)
        go_wp2_with fail
        go_loopw [2, 35] (fun x i wr => ∃ (q rp : Nat) (lf' : List (List Lv)) (vs' : List Value) (rc' : List Nat) (rv' : Value), q ≤ 1 ∧ i = .int .u64 ((1 - q : Nat) : Int) ∧ x = .int .i64 (rp : Nat) ∧ rp ≤ 1000 ∧ Fr S C w1 wr [rv] [rv'] ∧ Asd wr B S C N cN lf' vs' rc' rv' ∧ Hid (Sh.times (Sh.body Sh.asW .nil D P c) q rp P (lf', rc') = R)) (fun _ i _ => 1 - (intOf i).toNat)
        case atStart => exact ⟨1, rep, lefts, vs, rec, rv, Nat.le_refl _, by rw [Nat.sub_self]; rfl, rfl, hrep, HF1.out, HD1.out, HT⟩
        case round =>
          obtain ⟨q, rp, lf', vs', rc', rv', hqn, rfl, rfl, hrp, hFr, hSd, HQ⟩ := hrel
          rename World => wr
          have CR := HC1.out.fr hno hFr
          have f0 : wr.cell? ⟨w.heap.size, 0, none⟩ = some (.int .i64 0) := CR.c 0
          have f1 : wr.cell? ⟨w.heap.size, 1, none⟩ = some (.int .i64 (D : Nat)) := CR.c 1
          have f2 : wr.cell? ⟨w.heap.size, 2, none⟩ = some (.int .i64 (P : Nat)) := CR.c 2
          have f3 : wr.cell? ⟨w.heap.size, 3, none⟩ = some (.int .i64 (c : Nat)) := CR.c 3
          have f4 : wr.cell? ⟨w.heap.size, 4, none⟩ = some (.int .i64 (T : Nat)) := CR.c 4
          have f5 : wr.cell? ⟨w.heap.size, 5, none⟩ = some (.slice none 0 0) := CR.c 5
          have HFr := Lib.hid hFr
          have HSd := Lib.hid hSd
          clear hFr hSd CR
          cases q with
          | zero =>
            rw [Nat.sub_zero] at *
            have hI2 : ¬ (1 : Int) < (1 : Int) := by omega
            go_wp2_with fail
            obtain rfl : R = some (lf', rc') := HQ.out.symm
            refine bodyPost_ret (v := .tuple #[]) (by simp [results, Try.results42, go_sem]) rfl ⟨rv', HR1.out.trans HFr.out, ?_⟩
            exact ⟨rfl, vs', HSd.out⟩
          | succ q =>
            obtain ⟨y, hy⟩ : ∃ y, 1 - (q + 1) = y := ⟨_, rfl⟩
            rw [hy]
            have hyI : (y : Int) < (1 : Int) := by omega
            have hyw : IntKind.u64.wrap ((y : Int) + 1) = ((y + 1 : Nat) : Int) := by rw [show ((y : Int) + 1) = ((y + 1 : Nat) : Int) by omega]; exact IntWalk.u64_in _ (by omega)
            have HY := Lib.hid hy
            have HQN := Lib.hid hqn
            clear hy hqn
            have HQ2 := Lib.hid (show (Sh.body Sh.asW .nil D P c rp (lf', rc')).bind (Sh.times (Sh.body Sh.asW .nil D P c) q P P) = R from HQ.out)
            clear HQ
            have HQ3 := Lib.hid (show (Sh.asLevel (lf', rc') c rp D true).bind (Sh.times (Sh.body Sh.asW .nil D P c) q P P) = R by
              have := HQ2.out
              rw [Sh.body_nil] at this
              exact this)
            go_wp2_with fail
            refine (alevel_any wr B S C N cN lf' vs' rc' rv' HSd.out c rp D (by have := HTT.out; simp only [lv1] at this; omega) true).mono ?_
            rintro e w5 ⟨rv5, hfr5, hm⟩
            obtain ⟨X, hX⟩ : ∃ X, Sh.asLevel (lf', rc') c rp D true = X := ⟨_, rfl⟩
            have HQ4 := HQ3.out
            rw [hX] at hm HQ4
            cases X with
            | none =>
              obtain rfl := hm
              obtain rfl : R = none := HQ4.symm
              refine And.intro rfl ?_
              exact (⟨rv5, HR1.out.trans (HFr.out.trans hfr5), rfl⟩ : AsPost w B S C N cN none rv (gaveUp 1) w5)
            | some st =>
              obtain ⟨rfl, vs5, hsd5⟩ := hm
              have CR := HC1.out.fr hno (HFr.out.trans hfr5)
              have f0 : w5.cell? ⟨w.heap.size, 0, none⟩ = some (.int .i64 0) := CR.c 0
              have f1 : w5.cell? ⟨w.heap.size, 1, none⟩ = some (.int .i64 (D : Nat)) := CR.c 1
              have f2 : w5.cell? ⟨w.heap.size, 2, none⟩ = some (.int .i64 (P : Nat)) := CR.c 2
              have f3 : w5.cell? ⟨w.heap.size, 3, none⟩ = some (.int .i64 (c : Nat)) := CR.c 3
              have f4 : w5.cell? ⟨w.heap.size, 4, none⟩ = some (.int .i64 (T : Nat)) := CR.c 4
              have f5 : w5.cell? ⟨w.heap.size, 5, none⟩ = some (.slice none 0 0) := CR.c 5
              have HFr5 := Lib.hid (HFr.out.trans hfr5)
              have HSd5 := Lib.hid hsd5
              have HQ5 := Lib.hid HQ4
              clear hfr5 hsd5 CR HQ4 hX
              go_wp2_with fail
              go_loopw [52] (fun i wr => i = .int .i64 0 ∧ wr = w5) (fun _ _ => 0)
              case atStart => exact ⟨rfl, rfl⟩
              case round =>
                obtain ⟨rfl, rfl⟩ := hrel
                go_wp2_with fail
                refine ⟨⟨q, P, st.1, vs5, st.2, rv5, by have := HQN.out; omega, ?_, rfl, by omega, HFr5.out, HSd5.out, HQ5.out⟩, ?_⟩
                · have h1 := HY.out; have h2 := HQN.out; go_num
                · have h1 := HY.out; have h2 := HQN.out; simp [intOf]; omega
      · have hrb : ((r : Int) != 0) = true := by rw [bne_iff_ne]; omega
        go_enter Try.func42, Try.ntmps42
        go_wp2_with fail
        have C1 := cel_new w #[.int .i64 (r : Nat), .int .i64 (D : Nat), .int .i64 (P : Nat), .int .i64 (c : Nat), .int .i64 (T : Nat), (.slice none 0 0)] 50
        have H1 := HS.out.next ((Below.refl _ _).alloc (Nat.le_refl _) (.cells #[.int .i64 (r : Nat), .int .i64 (D : Nat), .int .i64 (P : Nat), .int .i64 (c : Nat), .int .i64 (T : Nat), (.slice none 0 0)] 50))
        have R1 := (Fr.refl S C w [rv]).alloc (.cells #[.int .i64 (r : Nat), .int .i64 (D : Nat), .int .i64 (P : Nat), .int .i64 (c : Nat), .int .i64 (T : Nat), (.slice none 0 0)] 50)
        have S1 : (w.alloc (.cells #[.int .i64 (r : Nat), .int .i64 (D : Nat), .int .i64 (P : Nat), .int .i64 (c : Nat), .int .i64 (T : Nat), (.slice none 0 0)] 50)).heap.size = w.heap.size + 1 := by simp
        have K1 := HK.out.keep (fun i (hi : i < B) => heap_alloc_old w (.cells #[.int .i64 (r : Nat), .int .i64 (D : Nat), .int .i64 (P : Nat), .int .i64 (c : Nat), .int .i64 (T : Nat), (.slice none 0 0)] 50) (Nat.lt_of_lt_of_le hi hBw))
        have hno : ¬ Out S C [rv] w.heap.size := fun e => by have := (HS.out.out e).2; omega
        generalize w.alloc (.cells #[.int .i64 (r : Nat), .int .i64 (D : Nat), .int .i64 (P : Nat), .int .i64 (c : Nat), .int .i64 (T : Nat), (.slice none 0 0)] 50) = w1 at *
        have HC1 := Lib.hid C1
        have HH1 := Lib.hid H1
        have HR1 := Lib.hid R1
        have HK1 := Lib.hid K1
        have HS1 := Lib.hid S1
        clear C1 H1 R1 S1 K1
        refine (aoften_any w1 B S C N cN lefts vs rec rv HH1.out r D P c T hr hcN2 (.slice none 0 0) rfl).mono ?_
        intro e w5 hp5
        obtain ⟨rv1, hfr, hp⟩ := hp5
        obtain ⟨Q, hQ⟩ : ∃ Q, Sh.asOften (lefts, rec) r D P c = Q := ⟨_, rfl⟩
        rw [hQ] at hp
        have hof0 : Sh.asW.often (lefts, rec) r (dn r d) (rn r p) c = Q := by rw [← hDP.out.1, ← hDP.out.2]; exact hQ
        cases Q with
        | none =>
          obtain rfl := hp
          obtain rfl : R = none := by rw [← HRT0.out]; exact Sh.al1_none h0 hof0
          refine And.intro rfl ?_
          exact (⟨rv1, HR1.out.trans (hfr), rfl⟩ : AsPost w B S C N cN none rv (gaveUp 1) w5)
        | some z =>
          obtain ⟨n, st1⟩ := z
          obtain ⟨rfl, hn64, vs1, hsd⟩ := hp
          have hof := hof0
          have CQ := HC1.out.fr hno hfr
          have f0 : w5.cell? ⟨w.heap.size, 0, none⟩ = some (.int .i64 (r : Nat)) := CQ.c 0
          have f1 : w5.cell? ⟨w.heap.size, 1, none⟩ = some (.int .i64 (D : Nat)) := CQ.c 1
          have f2 : w5.cell? ⟨w.heap.size, 2, none⟩ = some (.int .i64 (P : Nat)) := CQ.c 2
          have f3 : w5.cell? ⟨w.heap.size, 3, none⟩ = some (.int .i64 (c : Nat)) := CQ.c 3
          have f4 : w5.cell? ⟨w.heap.size, 4, none⟩ = some (.int .i64 (T : Nat)) := CQ.c 4
          have f5 : w5.cell? ⟨w.heap.size, 5, none⟩ = some (.slice none 0 0) := CQ.c 5
          have HF1 := Lib.hid hfr
          have HD1 := Lib.hid (show Asd w5 B S C N cN st1.1 vs1 st1.2 rv1 from hsd)
          clear hfr CQ hsd hof0 hQ
          have hn64 : n < 18446744073709551616 := hn64
          by_cases hn0 : n = 0
          · subst hn0
            simp only [Int.natCast_zero]
            have hD1 : D = d + 1 := by rw [hDP.out.1]; unfold dn; rw [if_neg h0]
            have hwd : IntKind.i64.wrap ((D : Int) - 1) = (d : Int) := by rw [hD1]; rw [show ((d + 1 : Nat) : Int) - 1 = (d : Int) by omega]; exact IntWalk.i64_in _ (by omega)
            have HT := Lib.hid (show Sh.nulls Sh.asW.level (lv1 .nil) c rep d st1 = R by rw [← HRT0.out]; exact (Sh.al1_zero h0 hof).symm)
            obtain ⟨L, hL⟩ : ∃ L, L = lv1 .nil := ⟨_, rfl⟩
            have hTL : c + L = T := by have := HTT.out; omega
            rw [← hL] at HT
            have hL12 : L ≤ 12 := by have := HS.out.nb; omega
            have HTL := Lib.hid hTL
            clear hL hD1 hTL hof
            go_wp2_with fail
            go_loopw [7] (fun i wr => ∃ (j : Nat) (lf2 : List (List Lv)) (vs2 : List Value) (rc2 : List Nat) (rv2 : Value), j ≤ L ∧ i = .int .i64 ((c + j : Nat) : Int) ∧ Fr S C w1 wr [rv] [rv2] ∧ Asd wr B S C N cN lf2 vs2 rc2 rv2 ∧ Hid (Sh.nulls Sh.asW.level (L - j) (c + j) rep d (lf2, rc2) = R)) (fun i _ => T - (intOf i).toNat)
            case atStart => exact ⟨0, st1.1, vs1, st1.2, rv1, Nat.zero_le _, rfl, HF1.out, HD1.out, HT⟩
            case round =>
              obtain ⟨j, lf2, vs2, rc2, rv2, hjL, rfl, hfr2, hsd2, HQ⟩ := hrel
              rename World => wk
              have CR := HC1.out.fr hno hfr2
              have f0 : wk.cell? ⟨w.heap.size, 0, none⟩ = some (.int .i64 (r : Nat)) := CR.c 0
              have f1 : wk.cell? ⟨w.heap.size, 1, none⟩ = some (.int .i64 (D : Nat)) := CR.c 1
              have f2 : wk.cell? ⟨w.heap.size, 2, none⟩ = some (.int .i64 (P : Nat)) := CR.c 2
              have f3 : wk.cell? ⟨w.heap.size, 3, none⟩ = some (.int .i64 (c : Nat)) := CR.c 3
              have f4 : wk.cell? ⟨w.heap.size, 4, none⟩ = some (.int .i64 (T : Nat)) := CR.c 4
              have f5 : wk.cell? ⟨w.heap.size, 5, none⟩ = some (.slice none 0 0) := CR.c 5
              have HF2 := Lib.hid hfr2
              have HD2 := Lib.hid hsd2
              clear hfr2 hsd2 CR
              by_cases hjl : j = L
              · subst hjl
                have e1 := HTL.out
                obtain rfl : R = some (lf2, rc2) := by
                  have := HQ.out
                  rw [Nat.sub_self] at this
                  exact this.symm
                rw [e1] at *
                have hjI : ¬ (T : Int) < (T : Int) := by omega
                clear e1
                go_wp2_with fail
                go_loopw [2, 35] (fun x i wr => x = .int .i64 (rep : Nat) ∧ i = .int .u64 0 ∧ wr = wk) (fun _ _ _ => 0)
                case atStart => exact ⟨rfl, rfl, rfl⟩
                case round =>
                  obtain ⟨rfl, rfl, rfl⟩ := hrel
                  go_wp2_with fail
                  refine bodyPost_ret (v := .tuple #[]) (by simp [results, Try.results42, go_sem]) rfl ⟨rv2, HR1.out.trans HF2.out, rfl, vs2, HD2.out⟩
              · have e1 := HTL.out
                obtain ⟨y, hy⟩ : ∃ y, c + j = y := ⟨_, rfl⟩
                have HY := Lib.hid hy
                rw [hy]
                have hjI : (y : Int) < (T : Int) := by omega
                have hyN : y < N := by omega
                have hyw : IntKind.i64.wrap ((y : Int) + 1) = (y : Int) + 1 := IntWalk.i64_in _ (by have := HS.out.nb; omega)
                clear e1 hy
                go_wp2_with fail
                refine (alevel_any wk B S C N cN lf2 vs2 rc2 rv2 HD2.out y rep d hyN false).mono ?_
                rintro e w5 ⟨rv5, hfr5, hm⟩
                obtain ⟨X, hX⟩ : ∃ X, Sh.asLevel (lf2, rc2) y rep d false = X := ⟨_, rfl⟩
                have HQ4 : X.bind (Sh.nulls Sh.asW.level (L - (j + 1)) (y + 1) rep d) = R := by
                  have := HQ.out
                  rw [show L - j = (L - (j + 1)) + 1 by omega, HY.out] at this
                  rw [← hX]
                  exact this
                rw [hX] at hm
                cases X with
                | none =>
                  obtain rfl := hm
                  obtain rfl : R = none := HQ4.symm
                  refine And.intro rfl ?_
                  exact (⟨rv5, HR1.out.trans (HF2.out.trans hfr5), rfl⟩ : AsPost w B S C N cN none rv (gaveUp 1) w5)
                | some st =>
                  obtain ⟨rfl, vs5, hsd5⟩ := hm
                  have CR := HC1.out.fr hno (HF2.out.trans hfr5)
                  have f0 : w5.cell? ⟨w.heap.size, 0, none⟩ = some (.int .i64 (r : Nat)) := CR.c 0
                  have f1 : w5.cell? ⟨w.heap.size, 1, none⟩ = some (.int .i64 (D : Nat)) := CR.c 1
                  have f2 : w5.cell? ⟨w.heap.size, 2, none⟩ = some (.int .i64 (P : Nat)) := CR.c 2
                  have f3 : w5.cell? ⟨w.heap.size, 3, none⟩ = some (.int .i64 (c : Nat)) := CR.c 3
                  have f4 : w5.cell? ⟨w.heap.size, 4, none⟩ = some (.int .i64 (T : Nat)) := CR.c 4
                  have f5 : w5.cell? ⟨w.heap.size, 5, none⟩ = some (.slice none 0 0) := CR.c 5
                  have HF5 := Lib.hid (HF2.out.trans hfr5)
                  have HD5 := Lib.hid hsd5
                  have HQ5 := Lib.hid (show Sh.nulls Sh.asW.level (L - (j + 1)) (c + (j + 1)) rep d (st.1, st.2) = R by
                    have e3 : y + 1 = c + (j + 1) := by have := HY.out; omega
                    rw [← e3]
                    exact HQ4)
                  clear hfr5 hsd5 CR HQ4 hX
                  go_wp2_with fail
                  refine ⟨⟨j + 1, st.1, vs5, st.2, rv5, by omega, ?_, HF5.out, HD5.out, HQ5.out⟩, ?_⟩
                  · have := HY.out; go_num
                  · have := HY.out; simp [intOf]; omega
          · have hnb : ((n : Int) == 0) = false := by rw [beq_eq_false_iff_ne]; omega
            have HT := Lib.hid (show Sh.times (Sh.body Sh.asW .nil D P c) n rep P (st1.1, st1.2) = R by
              have := HRT0.out
              rw [Sh.al1_some h0 hn0 hof, ← hDP.out.1, ← hDP.out.2] at this
              exact this)
            clear hof
            go_wp2_with fail
            go_loopw [2, 35] (fun x i wr => ∃ (q rp : Nat) (lf' : List (List Lv)) (vs' : List Value) (rc' : List Nat) (rv' : Value), q ≤ n ∧ i = .int .u64 ((n - q : Nat) : Int) ∧ x = .int .i64 (rp : Nat) ∧ rp ≤ 1000 ∧ Fr S C w1 wr [rv] [rv'] ∧ Asd wr B S C N cN lf' vs' rc' rv' ∧ Hid (Sh.times (Sh.body Sh.asW .nil D P c) q rp P (lf', rc') = R)) (fun _ i _ => n - (intOf i).toNat)
            case atStart => exact ⟨n, rep, st1.1, vs1, st1.2, rv1, Nat.le_refl _, by rw [Nat.sub_self]; rfl, rfl, hrep, HF1.out, HD1.out, HT⟩
            case round =>
              obtain ⟨q, rp, lf', vs', rc', rv', hqn, rfl, rfl, hrp, hFr, hSd, HQ⟩ := hrel
              rename World => wr
              have CR := HC1.out.fr hno hFr
              have f0 : wr.cell? ⟨w.heap.size, 0, none⟩ = some (.int .i64 (r : Nat)) := CR.c 0
              have f1 : wr.cell? ⟨w.heap.size, 1, none⟩ = some (.int .i64 (D : Nat)) := CR.c 1
              have f2 : wr.cell? ⟨w.heap.size, 2, none⟩ = some (.int .i64 (P : Nat)) := CR.c 2
              have f3 : wr.cell? ⟨w.heap.size, 3, none⟩ = some (.int .i64 (c : Nat)) := CR.c 3
              have f4 : wr.cell? ⟨w.heap.size, 4, none⟩ = some (.int .i64 (T : Nat)) := CR.c 4
              have f5 : wr.cell? ⟨w.heap.size, 5, none⟩ = some (.slice none 0 0) := CR.c 5
              have HFr := Lib.hid hFr
              have HSd := Lib.hid hSd
              clear hFr hSd CR
              cases q with
              | zero =>
                rw [Nat.sub_zero] at *
                have hI2 : ¬ (n : Int) < (n : Int) := by omega
                go_wp2_with fail
                obtain rfl : R = some (lf', rc') := HQ.out.symm
                refine bodyPost_ret (v := .tuple #[]) (by simp [results, Try.results42, go_sem]) rfl ⟨rv', HR1.out.trans HFr.out, ?_⟩
                exact ⟨rfl, vs', HSd.out⟩
              | succ q =>
                obtain ⟨y, hy⟩ : ∃ y, n - (q + 1) = y := ⟨_, rfl⟩
                rw [hy]
                have hyI : (y : Int) < (n : Int) := by omega
                have hyw : IntKind.u64.wrap ((y : Int) + 1) = ((y + 1 : Nat) : Int) := by rw [show ((y : Int) + 1) = ((y + 1 : Nat) : Int) by omega]; exact IntWalk.u64_in _ (by omega)
                have HY := Lib.hid hy
                have HQN := Lib.hid hqn
                clear hy hqn
                have HQ2 := Lib.hid (show (Sh.body Sh.asW .nil D P c rp (lf', rc')).bind (Sh.times (Sh.body Sh.asW .nil D P c) q P P) = R from HQ.out)
                clear HQ
                have HQ3 := Lib.hid (show (Sh.asLevel (lf', rc') c rp D true).bind (Sh.times (Sh.body Sh.asW .nil D P c) q P P) = R by
                  have := HQ2.out
                  rw [Sh.body_nil] at this
                  exact this)
                go_wp2_with fail
                refine (alevel_any wr B S C N cN lf' vs' rc' rv' HSd.out c rp D (by have := HTT.out; simp only [lv1] at this; omega) true).mono ?_
                rintro e w5 ⟨rv5, hfr5, hm⟩
                obtain ⟨X, hX⟩ : ∃ X, Sh.asLevel (lf', rc') c rp D true = X := ⟨_, rfl⟩
                have HQ4 := HQ3.out
                rw [hX] at hm HQ4
                cases X with
                | none =>
                  obtain rfl := hm
                  obtain rfl : R = none := HQ4.symm
                  refine And.intro rfl ?_
                  exact (⟨rv5, HR1.out.trans (HFr.out.trans hfr5), rfl⟩ : AsPost w B S C N cN none rv (gaveUp 1) w5)
                | some st =>
                  obtain ⟨rfl, vs5, hsd5⟩ := hm
                  have CR := HC1.out.fr hno (HFr.out.trans hfr5)
                  have f0 : w5.cell? ⟨w.heap.size, 0, none⟩ = some (.int .i64 (r : Nat)) := CR.c 0
                  have f1 : w5.cell? ⟨w.heap.size, 1, none⟩ = some (.int .i64 (D : Nat)) := CR.c 1
                  have f2 : w5.cell? ⟨w.heap.size, 2, none⟩ = some (.int .i64 (P : Nat)) := CR.c 2
                  have f3 : w5.cell? ⟨w.heap.size, 3, none⟩ = some (.int .i64 (c : Nat)) := CR.c 3
                  have f4 : w5.cell? ⟨w.heap.size, 4, none⟩ = some (.int .i64 (T : Nat)) := CR.c 4
                  have f5 : w5.cell? ⟨w.heap.size, 5, none⟩ = some (.slice none 0 0) := CR.c 5
                  have HFr5 := Lib.hid (HFr.out.trans hfr5)
                  have HSd5 := Lib.hid hsd5
                  have HQ5 := Lib.hid HQ4
                  clear hfr5 hsd5 CR HQ4 hX
                  go_wp2_with fail
                  go_loopw [52] (fun i wr => i = .int .i64 0 ∧ wr = w5) (fun _ _ => 0)
                  case atStart => exact ⟨rfl, rfl⟩
                  case round =>
                    obtain ⟨rfl, rfl⟩ := hrel
                    go_wp2_with fail
                    refine ⟨⟨q, P, st.1, vs5, st.2, rv5, by have := HQN.out; omega, ?_, rfl, by omega, HFr5.out, HSd5.out, HQ5.out⟩, ?_⟩
                    · have h1 := HY.out; have h2 := HQN.out; go_num
                    · have h1 := HY.out; have h2 := HQN.out; simp [intOf]; omega
    | cons r0 k0 s0 =>
      obtain ⟨b', capk, rfl, hb', hrow⟩ : ∃ b' capk, kv = .slice (some ⟨b', 0, none⟩) (Sh.len (.cons r0 k0 s0)) capk ∧ b' < B ∧ Row w (fun i => i < B) (.cons r0 k0 s0) b' 0 (dn r d) (rn r p) c := by
        rcases HK.out with ⟨h, -⟩ | ⟨-, b', capk, h1, h2, h3⟩
        · cases h
        · exact ⟨b', capk, h1, h2, h3⟩
      rw [← hDP.out.1, ← hDP.out.2] at hrow
      have hM4 : 0 < Sh.len (.cons r0 k0 s0) ∧ Sh.len (.cons r0 k0 s0) ≤ 1000 := by
        have := Sh.len_le (.cons r0 k0 s0)
        exact ⟨by simp only [Sh.len]; omega, by omega⟩
      obtain ⟨M, hM⟩ : ∃ M, M = Sh.len (.cons r0 k0 s0) := ⟨_, rfl⟩
      rw [← hM] at hM4 ⊢
      have HM := Lib.hid hM
      have hM0 : ((M : Int) == 0) = false := by rw [beq_eq_false_iff_ne]; omega
      clear hM
      by_cases h0 : r = 0
      · subst h0
        simp only [Int.natCast_zero]
        go_enter Try.func42, Try.ntmps42
        go_wp2_with fail
        have C1 := cel_new w #[.int .i64 0, .int .i64 (D : Nat), .int .i64 (P : Nat), .int .i64 (c : Nat), .int .i64 (T : Nat), (.slice (some ⟨b', 0, none⟩) M capk)] 50
        have H1 := HS.out.next ((Below.refl _ _).alloc (Nat.le_refl _) (.cells #[.int .i64 0, .int .i64 (D : Nat), .int .i64 (P : Nat), .int .i64 (c : Nat), .int .i64 (T : Nat), (.slice (some ⟨b', 0, none⟩) M capk)] 50))
        have R1 := (Fr.refl S C w [rv]).alloc (.cells #[.int .i64 0, .int .i64 (D : Nat), .int .i64 (P : Nat), .int .i64 (c : Nat), .int .i64 (T : Nat), (.slice (some ⟨b', 0, none⟩) M capk)] 50)
        have S1 : (w.alloc (.cells #[.int .i64 0, .int .i64 (D : Nat), .int .i64 (P : Nat), .int .i64 (c : Nat), .int .i64 (T : Nat), (.slice (some ⟨b', 0, none⟩) M capk)] 50)).heap.size = w.heap.size + 1 := by simp
        have K1 := HK.out.keep (fun i (hi : i < B) => heap_alloc_old w (.cells #[.int .i64 0, .int .i64 (D : Nat), .int .i64 (P : Nat), .int .i64 (c : Nat), .int .i64 (T : Nat), (.slice (some ⟨b', 0, none⟩) M capk)] 50) (Nat.lt_of_lt_of_le hi hBw))
        have hno : ¬ Out S C [rv] w.heap.size := fun e => by have := (HS.out.out e).2; omega
        generalize w.alloc (.cells #[.int .i64 0, .int .i64 (D : Nat), .int .i64 (P : Nat), .int .i64 (c : Nat), .int .i64 (T : Nat), (.slice (some ⟨b', 0, none⟩) M capk)] 50) = w1 at *
        have HC1 := Lib.hid C1
        have HH1 := Lib.hid H1
        have HR1 := Lib.hid R1
        have HK1 := Lib.hid K1
        have HS1 := Lib.hid S1
        clear C1 H1 R1 S1 K1
        have HROW := Lib.hid (Row.keep (S := fun i => i < B) (fun i (hi : i < B) => (HR1.out.block i (Nat.lt_of_lt_of_le hi hBw) (fun e => by have := (HS.out.out e).1; omega))) _ hb' hrow)
        clear hrow
        have f0 : w1.cell? ⟨w.heap.size, 0, none⟩ = some (.int .i64 0) := HC1.out.c 0
        have f1 : w1.cell? ⟨w.heap.size, 1, none⟩ = some (.int .i64 (D : Nat)) := HC1.out.c 1
        have f2 : w1.cell? ⟨w.heap.size, 2, none⟩ = some (.int .i64 (P : Nat)) := HC1.out.c 2
        have f3 : w1.cell? ⟨w.heap.size, 3, none⟩ = some (.int .i64 (c : Nat)) := HC1.out.c 3
        have f4 : w1.cell? ⟨w.heap.size, 4, none⟩ = some (.int .i64 (T : Nat)) := HC1.out.c 4
        have f5 : w1.cell? ⟨w.heap.size, 5, none⟩ = some (.slice (some ⟨b', 0, none⟩) M capk) := HC1.out.c 5
        have HF1 := Lib.hid (Fr.refl S C w1 [rv])
        have HD1 := HH1
        have HT := Lib.hid (show Sh.times (Sh.body Sh.asW (.cons r0 k0 s0) D P c) 1 rep P (lefts, rec) = R by
          have := HRT0.out
          rw [Sh.al1_req] at this
          have e1 := hDP.out.1
          have e2 := hDP.out.2
          rw [show dn 0 d = d from rfl] at e1
          rw [show rn 0 p = p from rfl] at e2
          rw [e1, e2]; exact this)
        go_wp2_with fail
        go_loopw [2, 35] (fun x i wr => ∃ (q rp : Nat) (lf' : List (List Lv)) (vs' : List Value) (rc' : List Nat) (rv' : Value), q ≤ 1 ∧ i = .int .u64 ((1 - q : Nat) : Int) ∧ x = .int .i64 (rp : Nat) ∧ rp ≤ 1000 ∧ Fr S C w1 wr [rv] [rv'] ∧ Asd wr B S C N cN lf' vs' rc' rv' ∧ Hid (Sh.times (Sh.body Sh.asW (.cons r0 k0 s0) D P c) q rp P (lf', rc') = R)) (fun _ i _ => 1 - (intOf i).toNat)
        case atStart => exact ⟨1, rep, lefts, vs, rec, rv, Nat.le_refl _, by rw [Nat.sub_self]; rfl, rfl, hrep, HF1.out, HD1.out, HT⟩
        case round =>
          obtain ⟨q, rp, lf', vs', rc', rv', hqn, rfl, rfl, hrp, hFr, hSd, HQ⟩ := hrel
          rename World => wr
          have CR := HC1.out.fr hno hFr
          have f0 : wr.cell? ⟨w.heap.size, 0, none⟩ = some (.int .i64 0) := CR.c 0
          have f1 : wr.cell? ⟨w.heap.size, 1, none⟩ = some (.int .i64 (D : Nat)) := CR.c 1
          have f2 : wr.cell? ⟨w.heap.size, 2, none⟩ = some (.int .i64 (P : Nat)) := CR.c 2
          have f3 : wr.cell? ⟨w.heap.size, 3, none⟩ = some (.int .i64 (c : Nat)) := CR.c 3
          have f4 : wr.cell? ⟨w.heap.size, 4, none⟩ = some (.int .i64 (T : Nat)) := CR.c 4
          have f5 : wr.cell? ⟨w.heap.size, 5, none⟩ = some (.slice (some ⟨b', 0, none⟩) M capk) := CR.c 5
          have HFr := Lib.hid hFr
          have HSd := Lib.hid hSd
          clear hFr hSd CR
          cases q with
          | zero =>
            rw [Nat.sub_zero] at *
            have hI2 : ¬ (1 : Int) < (1 : Int) := by omega
            go_wp2_with fail
            obtain rfl : R = some (lf', rc') := HQ.out.symm
            refine bodyPost_ret (v := .tuple #[]) (by simp [results, Try.results42, go_sem]) rfl ⟨rv', HR1.out.trans HFr.out, ?_⟩
            exact ⟨rfl, vs', HSd.out⟩
          | succ q =>
            obtain ⟨y, hy⟩ : ∃ y, 1 - (q + 1) = y := ⟨_, rfl⟩
            rw [hy]
            have hyI : (y : Int) < (1 : Int) := by omega
            have hyw : IntKind.u64.wrap ((y : Int) + 1) = ((y + 1 : Nat) : Int) := by rw [show ((y : Int) + 1) = ((y + 1 : Nat) : Int) by omega]; exact IntWalk.u64_in _ (by omega)
            have HY := Lib.hid hy
            have HQN := Lib.hid hqn
            clear hy hqn
            have HQ2 := Lib.hid (show (Sh.body Sh.asW (.cons r0 k0 s0) D P c rp (lf', rc')).bind (Sh.times (Sh.body Sh.asW (.cons r0 k0 s0) D P c) q P P) = R from HQ.out)
            clear HQ
            have HQ3 := Lib.hid (show (Sh.al Sh.asW (.cons r0 k0 s0) D P c rp (lf', rc')).bind (Sh.times (Sh.body Sh.asW (.cons r0 k0 s0) D P c) q P P) = R from HQ2.out)
            have HRW := Lib.hid (Row.keep (S := fun i => i < B) (fun i (hi : i < B) => HFr.out.block i (Nat.lt_of_lt_of_le hi (Nat.le_trans hBw HR1.out.size)) (fun e => by have := (HH1.out.out e).1; omega)) _ hb' HROW.out)
            clear HQ2
            go_wp2_with fail
            go_loopw [52] (fun i wr => ∃ (j : Nat) (s : Sh.F) (c2 : Nat) (lf2 : List (List Lv)) (vs2 : List Value) (rc2 : List Nat) (rv2 : Value), j + Sh.len s = M ∧ i = .int .i64 j ∧ c2 + Sh.leaves s = T ∧ Sh.ok s ∧ Sh.size s ≤ Sh.size (.cons r0 k0 s0) ∧ Row wr (fun i => i < B) s b' (j * 6) D P c2 ∧ Fr S C w1 wr [rv] [rv2] ∧ Asd wr B S C N cN lf2 vs2 rc2 rv2 ∧ Hid ((Sh.al Sh.asW s D P c2 rp (lf2, rc2)).bind (Sh.times (Sh.body Sh.asW (.cons r0 k0 s0) D P c) q P P) = R)) (fun i _ => M - (intOf i).toNat)
            case atStart => exact ⟨0, (.cons r0 k0 s0), c, lf', vs', rc', rv', by rw [← HM.out, Nat.zero_add], rfl, HTT.out.symm, HOK.out, Nat.le_refl _, by rw [Nat.zero_mul]; exact HRW.out, HFr.out, HSd.out, HQ3⟩
            case round =>
              obtain ⟨j, s, c2, lf2, vs2, rc2, rv2, hjs, rfl, hcs, hoks, hss, hrow2, hfr2, hsd2, HQ5⟩ := hrel
              rename World => wk
              cases s with
              | nil =>
                have CR := HC1.out.fr hno hfr2
                have f0 : wk.cell? ⟨w.heap.size, 0, none⟩ = some (.int .i64 0) := CR.c 0
                have f1 : wk.cell? ⟨w.heap.size, 1, none⟩ = some (.int .i64 (D : Nat)) := CR.c 1
                have f2 : wk.cell? ⟨w.heap.size, 2, none⟩ = some (.int .i64 (P : Nat)) := CR.c 2
                have f3 : wk.cell? ⟨w.heap.size, 3, none⟩ = some (.int .i64 (c : Nat)) := CR.c 3
                have f4 : wk.cell? ⟨w.heap.size, 4, none⟩ = some (.int .i64 (T : Nat)) := CR.c 4
                have f5 : wk.cell? ⟨w.heap.size, 5, none⟩ = some (.slice (some ⟨b', 0, none⟩) M capk) := CR.c 5
                obtain rfl : j = M := by simpa [Sh.len] using hjs
                have HFr5 := Lib.hid hfr2
                have HSd5 := Lib.hid hsd2
                have hjI : ¬ (j : Int) < (j : Int) := by omega
                clear hfr2 hsd2 CR hrow2 hoks hss hcs hjs
                go_wp2_with fail
                refine ⟨⟨q, P, lf2, vs2, rc2, rv2, by have := HQN.out; omega, ?_, rfl, by omega, HFr5.out, HSd5.out, HQ5.out⟩, ?_⟩
                · have h1 := HY.out; have h2 := HQN.out; go_num
                · have h1 := HY.out; have h2 := HQN.out; simp [intOf]; omega
              | cons r2 k2 s2 =>
                have HF2 := Lib.hid hfr2
                have HD2 := Lib.hid hsd2
                have HHR := Lib.hid hrow2
                obtain ⟨⟨kv2, hc6, hkv2⟩, hrest⟩ := row_cons.1 hrow2
                have hjI : (j : Int) < (M : Int) := by simp only [Sh.len] at hjs; omega
                obtain ⟨D2, hD2⟩ : ∃ D2, D2 = dn r2 D := ⟨_, rfl⟩
                obtain ⟨P2, hP2⟩ : ∃ P2, P2 = rn r2 P := ⟨_, rfl⟩
                obtain ⟨T2, hT2⟩ : ∃ T2, T2 = c2 + lv1 k2 := ⟨_, rfl⟩
                unfold nx at hc6
                rw [← hD2, ← hP2, ← hT2] at hc6
                have g0 : wk.cell? ⟨b', j * 6, none⟩ = some (.int .i64 (r2 : Nat)) := hc6 0 (by omega)
                have g1 : wk.cell? ⟨b', j * 6 + 1, none⟩ = some (.int .i64 (D2 : Nat)) := hc6 1 (by omega)
                have g2 : wk.cell? ⟨b', j * 6 + 2, none⟩ = some (.int .i64 (P2 : Nat)) := hc6 2 (by omega)
                have g3 : wk.cell? ⟨b', j * 6 + 3, none⟩ = some (.int .i64 (c2 : Nat)) := hc6 3 (by omega)
                have g4 : wk.cell? ⟨b', j * 6 + 4, none⟩ = some (.int .i64 (T2 : Nat)) := hc6 4 (by omega)
                have g5 : wk.cell? ⟨b', j * 6 + 5, none⟩ = some kv2 := hc6 5 (by omega)
                obtain ⟨aa, na, ca, hka⟩ : ∃ aa na ca, kv2 = .slice aa na ca := by
                  rcases hkv2 with ⟨-, h⟩ | ⟨-, bb, cc, h, -, -⟩
                  · exact ⟨_, _, _, h⟩
                  · exact ⟨_, _, _, h⟩
                subst hka
                have HDP2 := Lib.hid (And.intro hD2 (And.intro hP2 hT2))
                have HKV2 := Lib.hid hkv2
                have HOS := Lib.hid hoks
                have hjM : j + 1 + Sh.len s2 = M := by simp only [Sh.len] at hjs; omega
                have HJM := Lib.hid hjM
                have HCS := Lib.hid hcs
                have hB2 : b' < wk.heap.size := Nat.lt_of_lt_of_le hb' (Nat.le_trans hBw (Nat.le_trans HR1.out.size hfr2.size))
                have HRE := Lib.hid hrest
                clear hfr2 hsd2 hrow2 hc6 hD2 hP2 hT2 hkv2 hoks hjs hjM hcs hrest
                have hno2 : ¬ Out S C [rv2] w.heap.size := HF2.out.notOut (by have := HS1.out; omega) hno
                have CA := (HC1.out.fr hno HF2.out).alloc (.cells #[.int .i64 (r2 : Nat), .int .i64 (D2 : Nat), .int .i64 (P2 : Nat), .int .i64 (c2 : Nat), .int .i64 (T2 : Nat), .slice aa na ca] 50)
                have FA := HF2.out.alloc (.cells #[.int .i64 (r2 : Nat), .int .i64 (D2 : Nat), .int .i64 (P2 : Nat), .int .i64 (c2 : Nat), .int .i64 (T2 : Nat), .slice aa na ca] 50)
                have DA := HD2.out.next ((Below.refl _ _).alloc (Nat.le_refl _) (.cells #[.int .i64 (r2 : Nat), .int .i64 (D2 : Nat), .int .i64 (P2 : Nat), .int .i64 (c2 : Nat), .int .i64 (T2 : Nat), .slice aa na ca] 50))
                have KA := HKV2.out.keep (fun i (hi : i < B) => heap_alloc_old wk (.cells #[.int .i64 (r2 : Nat), .int .i64 (D2 : Nat), .int .i64 (P2 : Nat), .int .i64 (c2 : Nat), .int .i64 (T2 : Nat), .slice aa na ca] 50) (by have := HD2.out.bs; have := HD2.out.s.lt; omega))
                have RA := Row.keep (fun i (hi : i < B) => heap_alloc_old wk (.cells #[.int .i64 (r2 : Nat), .int .i64 (D2 : Nat), .int .i64 (P2 : Nat), .int .i64 (c2 : Nat), .int .i64 (T2 : Nat), .slice aa na ca] 50) (by have := HD2.out.bs; have := HD2.out.s.lt; omega)) _ hb' HRE.out
                have HCA := Lib.hid CA
                have HFA := Lib.hid FA
                have HDA := Lib.hid DA
                have HKA := Lib.hid KA
                have HRA := Lib.hid RA
                clear CA FA DA KA RA
                go_wp2_with fail
                have HCA := HCA.out
                have HFA := HFA.out
                have HDA := HDA.out
                have HKA := HKA.out
                have HRA := HRA.out
                generalize wk.alloc (.cells #[.int .i64 (r2 : Nat), .int .i64 (D2 : Nat), .int .i64 (P2 : Nat), .int .i64 (c2 : Nat), .int .i64 (T2 : Nat), .slice aa na ca] 50) = wa at *
                have hsz3 : Sh.size s2 ≤ Sh.size (.cons r0 k0 s0) := by have h := hss; simp only [Sh.size] at h ⊢; omega
                have hsz2 := hss
                simp only [Sh.size] at hsz2
                have hok2 := HOS.out
                simp only [Sh.ok] at hok2
                have hlv2 : T2 + Sh.leaves s2 = T := by have := HCS.out; rw [leaves_cons] at this; have := HDP2.out.2.2; omega
                have HCL := IH.out r2 k2 D P c2 rp (.slice aa na ca) wa lf2 vs2 rc2 rv2 (by simp only [Sh.size] at hsz; omega) hok2.1 hok2.2.2.1 (by omega) (by omega) hrp (by have := HDP2.out.2.2; omega) HDA HKA
                unfold nag nx at HCL
                rw [← HDP2.out.1, ← HDP2.out.2.1, ← HDP2.out.2.2] at HCL
                refine HCL.mono ?_
                rintro e w5 ⟨rv5, hfr5, hm⟩
                obtain ⟨X, hX⟩ : ∃ X, Sh.al1 Sh.asW r2 k2 D P c2 rp (lf2, rc2) = X := ⟨_, rfl⟩
                have HQ6 := HQ5
                rw [Sh.al_cons, hX, ← HDP2.out.2.2] at HQ6
                rw [hX] at hm
                cases X with
                | none =>
                  obtain rfl := hm
                  obtain rfl : R = none := HQ6.symm
                  refine And.intro rfl ?_
                  exact (⟨rv5, HR1.out.trans (HFA.trans hfr5), rfl⟩ : AsPost w B S C N cN none rv (gaveUp 1) w5)
                | some st =>
                  obtain ⟨rfl, vs5, hsd5⟩ := hm
                  have HQ7 := Lib.hid (show (Sh.al Sh.asW s2 D P T2 rp st).bind (Sh.times (Sh.body Sh.asW (.cons r0 k0 s0) D P c) q P P) = R from HQ6)
                  have HRF := Lib.hid (Row.keep (S := fun i => i < B) (fun i (hi : i < B) => hfr5.block i (by have := HDA.bs; have := HDA.s.lt; omega) (fun e => by have := (HDA.out e).1; omega)) _ hb' HRA)
                  have HFF := Lib.hid (HFA.trans hfr5)
                  have HSF := Lib.hid hsd5
                  have HOF := Lib.hid hok2.2.2.2
                  clear HQ6 hX hfr5 hsd5 HCL HFA HDA HKA HRA HCA hok2 HQ5
                  go_wp2_with fail
                  refine ⟨⟨j + 1, s2, T2, st.1, vs5, st.2, rv5, HJM.out, rfl, hlv2, HOF.out, hsz3, by rw [show (j + 1) * 6 = j * 6 + 6 by omega]; have := HRF.out; rw [← HDP2.out.2.2] at this; exact this, HFF.out, HSF.out, HQ7.out⟩, ?_⟩
                  have := HJM.out
                  simp [intOf]; omega
      · have hrb : ((r : Int) != 0) = true := by rw [bne_iff_ne]; omega
        go_enter Try.func42, Try.ntmps42
        go_wp2_with fail
        have C1 := cel_new w #[.int .i64 (r : Nat), .int .i64 (D : Nat), .int .i64 (P : Nat), .int .i64 (c : Nat), .int .i64 (T : Nat), (.slice (some ⟨b', 0, none⟩) M capk)] 50
        have H1 := HS.out.next ((Below.refl _ _).alloc (Nat.le_refl _) (.cells #[.int .i64 (r : Nat), .int .i64 (D : Nat), .int .i64 (P : Nat), .int .i64 (c : Nat), .int .i64 (T : Nat), (.slice (some ⟨b', 0, none⟩) M capk)] 50))
        have R1 := (Fr.refl S C w [rv]).alloc (.cells #[.int .i64 (r : Nat), .int .i64 (D : Nat), .int .i64 (P : Nat), .int .i64 (c : Nat), .int .i64 (T : Nat), (.slice (some ⟨b', 0, none⟩) M capk)] 50)
        have S1 : (w.alloc (.cells #[.int .i64 (r : Nat), .int .i64 (D : Nat), .int .i64 (P : Nat), .int .i64 (c : Nat), .int .i64 (T : Nat), (.slice (some ⟨b', 0, none⟩) M capk)] 50)).heap.size = w.heap.size + 1 := by simp
        have K1 := HK.out.keep (fun i (hi : i < B) => heap_alloc_old w (.cells #[.int .i64 (r : Nat), .int .i64 (D : Nat), .int .i64 (P : Nat), .int .i64 (c : Nat), .int .i64 (T : Nat), (.slice (some ⟨b', 0, none⟩) M capk)] 50) (Nat.lt_of_lt_of_le hi hBw))
        have hno : ¬ Out S C [rv] w.heap.size := fun e => by have := (HS.out.out e).2; omega
        generalize w.alloc (.cells #[.int .i64 (r : Nat), .int .i64 (D : Nat), .int .i64 (P : Nat), .int .i64 (c : Nat), .int .i64 (T : Nat), (.slice (some ⟨b', 0, none⟩) M capk)] 50) = w1 at *
        have HC1 := Lib.hid C1
        have HH1 := Lib.hid H1
        have HR1 := Lib.hid R1
        have HK1 := Lib.hid K1
        have HS1 := Lib.hid S1
        clear C1 H1 R1 S1 K1
        have HROW := Lib.hid (Row.keep (S := fun i => i < B) (fun i (hi : i < B) => (HR1.out.block i (Nat.lt_of_lt_of_le hi hBw) (fun e => by have := (HS.out.out e).1; omega))) _ hb' hrow)
        clear hrow
        refine (aoften_any w1 B S C N cN lefts vs rec rv HH1.out r D P c T hr hcN2 (.slice (some ⟨b', 0, none⟩) M capk) rfl).mono ?_
        intro e w5 hp5
        obtain ⟨rv1, hfr, hp⟩ := hp5
        obtain ⟨Q, hQ⟩ : ∃ Q, Sh.asOften (lefts, rec) r D P c = Q := ⟨_, rfl⟩
        rw [hQ] at hp
        have hof0 : Sh.asW.often (lefts, rec) r (dn r d) (rn r p) c = Q := by rw [← hDP.out.1, ← hDP.out.2]; exact hQ
        cases Q with
        | none =>
          obtain rfl := hp
          obtain rfl : R = none := by rw [← HRT0.out]; exact Sh.al1_none h0 hof0
          refine And.intro rfl ?_
          exact (⟨rv1, HR1.out.trans (hfr), rfl⟩ : AsPost w B S C N cN none rv (gaveUp 1) w5)
        | some z =>
          obtain ⟨n, st1⟩ := z
          obtain ⟨rfl, hn64, vs1, hsd⟩ := hp
          have hof := hof0
          have CQ := HC1.out.fr hno hfr
          have f0 : w5.cell? ⟨w.heap.size, 0, none⟩ = some (.int .i64 (r : Nat)) := CQ.c 0
          have f1 : w5.cell? ⟨w.heap.size, 1, none⟩ = some (.int .i64 (D : Nat)) := CQ.c 1
          have f2 : w5.cell? ⟨w.heap.size, 2, none⟩ = some (.int .i64 (P : Nat)) := CQ.c 2
          have f3 : w5.cell? ⟨w.heap.size, 3, none⟩ = some (.int .i64 (c : Nat)) := CQ.c 3
          have f4 : w5.cell? ⟨w.heap.size, 4, none⟩ = some (.int .i64 (T : Nat)) := CQ.c 4
          have f5 : w5.cell? ⟨w.heap.size, 5, none⟩ = some (.slice (some ⟨b', 0, none⟩) M capk) := CQ.c 5
          have HF1 := Lib.hid hfr
          have HD1 := Lib.hid (show Asd w5 B S C N cN st1.1 vs1 st1.2 rv1 from hsd)
          clear hfr CQ hsd hof0 hQ
          have hn64 : n < 18446744073709551616 := hn64
          by_cases hn0 : n = 0
          · subst hn0
            simp only [Int.natCast_zero]
            have hD1 : D = d + 1 := by rw [hDP.out.1]; unfold dn; rw [if_neg h0]
            have hwd : IntKind.i64.wrap ((D : Int) - 1) = (d : Int) := by rw [hD1]; rw [show ((d + 1 : Nat) : Int) - 1 = (d : Int) by omega]; exact IntWalk.i64_in _ (by omega)
            have HT := Lib.hid (show Sh.nulls Sh.asW.level (lv1 (.cons r0 k0 s0)) c rep d st1 = R by rw [← HRT0.out]; exact (Sh.al1_zero h0 hof).symm)
            obtain ⟨L, hL⟩ : ∃ L, L = lv1 (.cons r0 k0 s0) := ⟨_, rfl⟩
            have hTL : c + L = T := by have := HTT.out; omega
            rw [← hL] at HT
            have hL12 : L ≤ 12 := by have := HS.out.nb; omega
            have HTL := Lib.hid hTL
            clear hL hD1 hTL hof
            go_wp2_with fail
            go_loopw [7] (fun i wr => ∃ (j : Nat) (lf2 : List (List Lv)) (vs2 : List Value) (rc2 : List Nat) (rv2 : Value), j ≤ L ∧ i = .int .i64 ((c + j : Nat) : Int) ∧ Fr S C w1 wr [rv] [rv2] ∧ Asd wr B S C N cN lf2 vs2 rc2 rv2 ∧ Hid (Sh.nulls Sh.asW.level (L - j) (c + j) rep d (lf2, rc2) = R)) (fun i _ => T - (intOf i).toNat)
            case atStart => exact ⟨0, st1.1, vs1, st1.2, rv1, Nat.zero_le _, rfl, HF1.out, HD1.out, HT⟩
            case round =>
              obtain ⟨j, lf2, vs2, rc2, rv2, hjL, rfl, hfr2, hsd2, HQ⟩ := hrel
              rename World => wk
              have CR := HC1.out.fr hno hfr2
              have f0 : wk.cell? ⟨w.heap.size, 0, none⟩ = some (.int .i64 (r : Nat)) := CR.c 0
              have f1 : wk.cell? ⟨w.heap.size, 1, none⟩ = some (.int .i64 (D : Nat)) := CR.c 1
              have f2 : wk.cell? ⟨w.heap.size, 2, none⟩ = some (.int .i64 (P : Nat)) := CR.c 2
              have f3 : wk.cell? ⟨w.heap.size, 3, none⟩ = some (.int .i64 (c : Nat)) := CR.c 3
              have f4 : wk.cell? ⟨w.heap.size, 4, none⟩ = some (.int .i64 (T : Nat)) := CR.c 4
              have f5 : wk.cell? ⟨w.heap.size, 5, none⟩ = some (.slice (some ⟨b', 0, none⟩) M capk) := CR.c 5
              have HF2 := Lib.hid hfr2
              have HD2 := Lib.hid hsd2
              clear hfr2 hsd2 CR
              by_cases hjl : j = L
              · subst hjl
                have e1 := HTL.out
                obtain rfl : R = some (lf2, rc2) := by
                  have := HQ.out
                  rw [Nat.sub_self] at this
                  exact this.symm
                rw [e1] at *
                have hjI : ¬ (T : Int) < (T : Int) := by omega
                clear e1
                go_wp2_with fail
                go_loopw [2, 35] (fun x i wr => x = .int .i64 (rep : Nat) ∧ i = .int .u64 0 ∧ wr = wk) (fun _ _ _ => 0)
                case atStart => exact ⟨rfl, rfl, rfl⟩
                case round =>
                  obtain ⟨rfl, rfl, rfl⟩ := hrel
                  go_wp2_with fail
                  refine bodyPost_ret (v := .tuple #[]) (by simp [results, Try.results42, go_sem]) rfl ⟨rv2, HR1.out.trans HF2.out, rfl, vs2, HD2.out⟩
              · have e1 := HTL.out
                obtain ⟨y, hy⟩ : ∃ y, c + j = y := ⟨_, rfl⟩
                have HY := Lib.hid hy
                rw [hy]
                have hjI : (y : Int) < (T : Int) := by omega
                have hyN : y < N := by omega
                have hyw : IntKind.i64.wrap ((y : Int) + 1) = (y : Int) + 1 := IntWalk.i64_in _ (by have := HS.out.nb; omega)
                clear e1 hy
                go_wp2_with fail
                refine (alevel_any wk B S C N cN lf2 vs2 rc2 rv2 HD2.out y rep d hyN false).mono ?_
                rintro e w5 ⟨rv5, hfr5, hm⟩
                obtain ⟨X, hX⟩ : ∃ X, Sh.asLevel (lf2, rc2) y rep d false = X := ⟨_, rfl⟩
                have HQ4 : X.bind (Sh.nulls Sh.asW.level (L - (j + 1)) (y + 1) rep d) = R := by
                  have := HQ.out
                  rw [show L - j = (L - (j + 1)) + 1 by omega, HY.out] at this
                  rw [← hX]
                  exact this
                rw [hX] at hm
                cases X with
                | none =>
                  obtain rfl := hm
                  obtain rfl : R = none := HQ4.symm
                  refine And.intro rfl ?_
                  exact (⟨rv5, HR1.out.trans (HF2.out.trans hfr5), rfl⟩ : AsPost w B S C N cN none rv (gaveUp 1) w5)
                | some st =>
                  obtain ⟨rfl, vs5, hsd5⟩ := hm
                  have CR := HC1.out.fr hno (HF2.out.trans hfr5)
                  have f0 : w5.cell? ⟨w.heap.size, 0, none⟩ = some (.int .i64 (r : Nat)) := CR.c 0
                  have f1 : w5.cell? ⟨w.heap.size, 1, none⟩ = some (.int .i64 (D : Nat)) := CR.c 1
                  have f2 : w5.cell? ⟨w.heap.size, 2, none⟩ = some (.int .i64 (P : Nat)) := CR.c 2
                  have f3 : w5.cell? ⟨w.heap.size, 3, none⟩ = some (.int .i64 (c : Nat)) := CR.c 3
                  have f4 : w5.cell? ⟨w.heap.size, 4, none⟩ = some (.int .i64 (T : Nat)) := CR.c 4
                  have f5 : w5.cell? ⟨w.heap.size, 5, none⟩ = some (.slice (some ⟨b', 0, none⟩) M capk) := CR.c 5
                  have HF5 := Lib.hid (HF2.out.trans hfr5)
                  have HD5 := Lib.hid hsd5
                  have HQ5 := Lib.hid (show Sh.nulls Sh.asW.level (L - (j + 1)) (c + (j + 1)) rep d (st.1, st.2) = R by
                    have e3 : y + 1 = c + (j + 1) := by have := HY.out; omega
                    rw [← e3]
                    exact HQ4)
                  clear hfr5 hsd5 CR HQ4 hX
                  go_wp2_with fail
                  refine ⟨⟨j + 1, st.1, vs5, st.2, rv5, by omega, ?_, HF5.out, HD5.out, HQ5.out⟩, ?_⟩
                  · have := HY.out; go_num
                  · have := HY.out; simp [intOf]; omega
          · have hnb : ((n : Int) == 0) = false := by rw [beq_eq_false_iff_ne]; omega
            have HT := Lib.hid (show Sh.times (Sh.body Sh.asW (.cons r0 k0 s0) D P c) n rep P (st1.1, st1.2) = R by
              have := HRT0.out
              rw [Sh.al1_some h0 hn0 hof, ← hDP.out.1, ← hDP.out.2] at this
              exact this)
            clear hof
            go_wp2_with fail
            go_loopw [2, 35] (fun x i wr => ∃ (q rp : Nat) (lf' : List (List Lv)) (vs' : List Value) (rc' : List Nat) (rv' : Value), q ≤ n ∧ i = .int .u64 ((n - q : Nat) : Int) ∧ x = .int .i64 (rp : Nat) ∧ rp ≤ 1000 ∧ Fr S C w1 wr [rv] [rv'] ∧ Asd wr B S C N cN lf' vs' rc' rv' ∧ Hid (Sh.times (Sh.body Sh.asW (.cons r0 k0 s0) D P c) q rp P (lf', rc') = R)) (fun _ i _ => n - (intOf i).toNat)
            case atStart => exact ⟨n, rep, st1.1, vs1, st1.2, rv1, Nat.le_refl _, by rw [Nat.sub_self]; rfl, rfl, hrep, HF1.out, HD1.out, HT⟩
            case round =>
              obtain ⟨q, rp, lf', vs', rc', rv', hqn, rfl, rfl, hrp, hFr, hSd, HQ⟩ := hrel
              rename World => wr
              have CR := HC1.out.fr hno hFr
              have f0 : wr.cell? ⟨w.heap.size, 0, none⟩ = some (.int .i64 (r : Nat)) := CR.c 0
              have f1 : wr.cell? ⟨w.heap.size, 1, none⟩ = some (.int .i64 (D : Nat)) := CR.c 1
              have f2 : wr.cell? ⟨w.heap.size, 2, none⟩ = some (.int .i64 (P : Nat)) := CR.c 2
              have f3 : wr.cell? ⟨w.heap.size, 3, none⟩ = some (.int .i64 (c : Nat)) := CR.c 3
              have f4 : wr.cell? ⟨w.heap.size, 4, none⟩ = some (.int .i64 (T : Nat)) := CR.c 4
              have f5 : wr.cell? ⟨w.heap.size, 5, none⟩ = some (.slice (some ⟨b', 0, none⟩) M capk) := CR.c 5
              have HFr := Lib.hid hFr
              have HSd := Lib.hid hSd
              clear hFr hSd CR
              cases q with
              | zero =>
                rw [Nat.sub_zero] at *
                have hI2 : ¬ (n : Int) < (n : Int) := by omega
                go_wp2_with fail
                obtain rfl : R = some (lf', rc') := HQ.out.symm
                refine bodyPost_ret (v := .tuple #[]) (by simp [results, Try.results42, go_sem]) rfl ⟨rv', HR1.out.trans HFr.out, ?_⟩
                exact ⟨rfl, vs', HSd.out⟩
              | succ q =>
                obtain ⟨y, hy⟩ : ∃ y, n - (q + 1) = y := ⟨_, rfl⟩
                rw [hy]
                have hyI : (y : Int) < (n : Int) := by omega
                have hyw : IntKind.u64.wrap ((y : Int) + 1) = ((y + 1 : Nat) : Int) := by rw [show ((y : Int) + 1) = ((y + 1 : Nat) : Int) by omega]; exact IntWalk.u64_in _ (by omega)
                have HY := Lib.hid hy
                have HQN := Lib.hid hqn
                clear hy hqn
                have HQ2 := Lib.hid (show (Sh.body Sh.asW (.cons r0 k0 s0) D P c rp (lf', rc')).bind (Sh.times (Sh.body Sh.asW (.cons r0 k0 s0) D P c) q P P) = R from HQ.out)
                clear HQ
                have HQ3 := Lib.hid (show (Sh.al Sh.asW (.cons r0 k0 s0) D P c rp (lf', rc')).bind (Sh.times (Sh.body Sh.asW (.cons r0 k0 s0) D P c) q P P) = R from HQ2.out)
                have HRW := Lib.hid (Row.keep (S := fun i => i < B) (fun i (hi : i < B) => HFr.out.block i (Nat.lt_of_lt_of_le hi (Nat.le_trans hBw HR1.out.size)) (fun e => by have := (HH1.out.out e).1; omega)) _ hb' HROW.out)
                clear HQ2
                go_wp2_with fail
                go_loopw [52] (fun i wr => ∃ (j : Nat) (s : Sh.F) (c2 : Nat) (lf2 : List (List Lv)) (vs2 : List Value) (rc2 : List Nat) (rv2 : Value), j + Sh.len s = M ∧ i = .int .i64 j ∧ c2 + Sh.leaves s = T ∧ Sh.ok s ∧ Sh.size s ≤ Sh.size (.cons r0 k0 s0) ∧ Row wr (fun i => i < B) s b' (j * 6) D P c2 ∧ Fr S C w1 wr [rv] [rv2] ∧ Asd wr B S C N cN lf2 vs2 rc2 rv2 ∧ Hid ((Sh.al Sh.asW s D P c2 rp (lf2, rc2)).bind (Sh.times (Sh.body Sh.asW (.cons r0 k0 s0) D P c) q P P) = R)) (fun i _ => M - (intOf i).toNat)
                case atStart => exact ⟨0, (.cons r0 k0 s0), c, lf', vs', rc', rv', by rw [← HM.out, Nat.zero_add], rfl, HTT.out.symm, HOK.out, Nat.le_refl _, by rw [Nat.zero_mul]; exact HRW.out, HFr.out, HSd.out, HQ3⟩
                case round =>
                  obtain ⟨j, s, c2, lf2, vs2, rc2, rv2, hjs, rfl, hcs, hoks, hss, hrow2, hfr2, hsd2, HQ5⟩ := hrel
                  rename World => wk
                  cases s with
                  | nil =>
                    have CR := HC1.out.fr hno hfr2
                    have f0 : wk.cell? ⟨w.heap.size, 0, none⟩ = some (.int .i64 (r : Nat)) := CR.c 0
                    have f1 : wk.cell? ⟨w.heap.size, 1, none⟩ = some (.int .i64 (D : Nat)) := CR.c 1
                    have f2 : wk.cell? ⟨w.heap.size, 2, none⟩ = some (.int .i64 (P : Nat)) := CR.c 2
                    have f3 : wk.cell? ⟨w.heap.size, 3, none⟩ = some (.int .i64 (c : Nat)) := CR.c 3
                    have f4 : wk.cell? ⟨w.heap.size, 4, none⟩ = some (.int .i64 (T : Nat)) := CR.c 4
                    have f5 : wk.cell? ⟨w.heap.size, 5, none⟩ = some (.slice (some ⟨b', 0, none⟩) M capk) := CR.c 5
                    obtain rfl : j = M := by simpa [Sh.len] using hjs
                    have HFr5 := Lib.hid hfr2
                    have HSd5 := Lib.hid hsd2
                    have hjI : ¬ (j : Int) < (j : Int) := by omega
                    clear hfr2 hsd2 CR hrow2 hoks hss hcs hjs
                    go_wp2_with fail
                    refine ⟨⟨q, P, lf2, vs2, rc2, rv2, by have := HQN.out; omega, ?_, rfl, by omega, HFr5.out, HSd5.out, HQ5.out⟩, ?_⟩
                    · have h1 := HY.out; have h2 := HQN.out; go_num
                    · have h1 := HY.out; have h2 := HQN.out; simp [intOf]; omega
                  | cons r2 k2 s2 =>
                    have HF2 := Lib.hid hfr2
                    have HD2 := Lib.hid hsd2
                    have HHR := Lib.hid hrow2
                    obtain ⟨⟨kv2, hc6, hkv2⟩, hrest⟩ := row_cons.1 hrow2
                    have hjI : (j : Int) < (M : Int) := by simp only [Sh.len] at hjs; omega
                    obtain ⟨D2, hD2⟩ : ∃ D2, D2 = dn r2 D := ⟨_, rfl⟩
                    obtain ⟨P2, hP2⟩ : ∃ P2, P2 = rn r2 P := ⟨_, rfl⟩
                    obtain ⟨T2, hT2⟩ : ∃ T2, T2 = c2 + lv1 k2 := ⟨_, rfl⟩
                    unfold nx at hc6
                    rw [← hD2, ← hP2, ← hT2] at hc6
                    have g0 : wk.cell? ⟨b', j * 6, none⟩ = some (.int .i64 (r2 : Nat)) := hc6 0 (by omega)
                    have g1 : wk.cell? ⟨b', j * 6 + 1, none⟩ = some (.int .i64 (D2 : Nat)) := hc6 1 (by omega)
                    have g2 : wk.cell? ⟨b', j * 6 + 2, none⟩ = some (.int .i64 (P2 : Nat)) := hc6 2 (by omega)
                    have g3 : wk.cell? ⟨b', j * 6 + 3, none⟩ = some (.int .i64 (c2 : Nat)) := hc6 3 (by omega)
                    have g4 : wk.cell? ⟨b', j * 6 + 4, none⟩ = some (.int .i64 (T2 : Nat)) := hc6 4 (by omega)
                    have g5 : wk.cell? ⟨b', j * 6 + 5, none⟩ = some kv2 := hc6 5 (by omega)
                    obtain ⟨aa, na, ca, hka⟩ : ∃ aa na ca, kv2 = .slice aa na ca := by
                      rcases hkv2 with ⟨-, h⟩ | ⟨-, bb, cc, h, -, -⟩
                      · exact ⟨_, _, _, h⟩
                      · exact ⟨_, _, _, h⟩
                    subst hka
                    have HDP2 := Lib.hid (And.intro hD2 (And.intro hP2 hT2))
                    have HKV2 := Lib.hid hkv2
                    have HOS := Lib.hid hoks
                    have hjM : j + 1 + Sh.len s2 = M := by simp only [Sh.len] at hjs; omega
                    have HJM := Lib.hid hjM
                    have HCS := Lib.hid hcs
                    have hB2 : b' < wk.heap.size := Nat.lt_of_lt_of_le hb' (Nat.le_trans hBw (Nat.le_trans HR1.out.size hfr2.size))
                    have HRE := Lib.hid hrest
                    clear hfr2 hsd2 hrow2 hc6 hD2 hP2 hT2 hkv2 hoks hjs hjM hcs hrest
                    have hno2 : ¬ Out S C [rv2] w.heap.size := HF2.out.notOut (by have := HS1.out; omega) hno
                    have CA := (HC1.out.fr hno HF2.out).alloc (.cells #[.int .i64 (r2 : Nat), .int .i64 (D2 : Nat), .int .i64 (P2 : Nat), .int .i64 (c2 : Nat), .int .i64 (T2 : Nat), .slice aa na ca] 50)
                    have FA := HF2.out.alloc (.cells #[.int .i64 (r2 : Nat), .int .i64 (D2 : Nat), .int .i64 (P2 : Nat), .int .i64 (c2 : Nat), .int .i64 (T2 : Nat), .slice aa na ca] 50)
                    have DA := HD2.out.next ((Below.refl _ _).alloc (Nat.le_refl _) (.cells #[.int .i64 (r2 : Nat), .int .i64 (D2 : Nat), .int .i64 (P2 : Nat), .int .i64 (c2 : Nat), .int .i64 (T2 : Nat), .slice aa na ca] 50))
                    have KA := HKV2.out.keep (fun i (hi : i < B) => heap_alloc_old wk (.cells #[.int .i64 (r2 : Nat), .int .i64 (D2 : Nat), .int .i64 (P2 : Nat), .int .i64 (c2 : Nat), .int .i64 (T2 : Nat), .slice aa na ca] 50) (by have := HD2.out.bs; have := HD2.out.s.lt; omega))
                    have RA := Row.keep (fun i (hi : i < B) => heap_alloc_old wk (.cells #[.int .i64 (r2 : Nat), .int .i64 (D2 : Nat), .int .i64 (P2 : Nat), .int .i64 (c2 : Nat), .int .i64 (T2 : Nat), .slice aa na ca] 50) (by have := HD2.out.bs; have := HD2.out.s.lt; omega)) _ hb' HRE.out
                    have HCA := Lib.hid CA
                    have HFA := Lib.hid FA
                    have HDA := Lib.hid DA
                    have HKA := Lib.hid KA
                    have HRA := Lib.hid RA
                    clear CA FA DA KA RA
                    go_wp2_with fail
                    have HCA := HCA.out
                    have HFA := HFA.out
                    have HDA := HDA.out
                    have HKA := HKA.out
                    have HRA := HRA.out
                    generalize wk.alloc (.cells #[.int .i64 (r2 : Nat), .int .i64 (D2 : Nat), .int .i64 (P2 : Nat), .int .i64 (c2 : Nat), .int .i64 (T2 : Nat), .slice aa na ca] 50) = wa at *
                    have hsz3 : Sh.size s2 ≤ Sh.size (.cons r0 k0 s0) := by have h := hss; simp only [Sh.size] at h ⊢; omega
                    have hsz2 := hss
                    simp only [Sh.size] at hsz2
                    have hok2 := HOS.out
                    simp only [Sh.ok] at hok2
                    have hlv2 : T2 + Sh.leaves s2 = T := by have := HCS.out; rw [leaves_cons] at this; have := HDP2.out.2.2; omega
                    have HCL := IH.out r2 k2 D P c2 rp (.slice aa na ca) wa lf2 vs2 rc2 rv2 (by simp only [Sh.size] at hsz; omega) hok2.1 hok2.2.2.1 (by omega) (by omega) hrp (by have := HDP2.out.2.2; omega) HDA HKA
                    unfold nag nx at HCL
                    rw [← HDP2.out.1, ← HDP2.out.2.1, ← HDP2.out.2.2] at HCL
                    refine HCL.mono ?_
                    rintro e w5 ⟨rv5, hfr5, hm⟩
                    obtain ⟨X, hX⟩ : ∃ X, Sh.al1 Sh.asW r2 k2 D P c2 rp (lf2, rc2) = X := ⟨_, rfl⟩
                    have HQ6 := HQ5
                    rw [Sh.al_cons, hX, ← HDP2.out.2.2] at HQ6
                    rw [hX] at hm
                    cases X with
                    | none =>
                      obtain rfl := hm
                      obtain rfl : R = none := HQ6.symm
                      refine And.intro rfl ?_
                      exact (⟨rv5, HR1.out.trans (HFA.trans hfr5), rfl⟩ : AsPost w B S C N cN none rv (gaveUp 1) w5)
                    | some st =>
                      obtain ⟨rfl, vs5, hsd5⟩ := hm
                      have HQ7 := Lib.hid (show (Sh.al Sh.asW s2 D P T2 rp st).bind (Sh.times (Sh.body Sh.asW (.cons r0 k0 s0) D P c) q P P) = R from HQ6)
                      have HRF := Lib.hid (Row.keep (S := fun i => i < B) (fun i (hi : i < B) => hfr5.block i (by have := HDA.bs; have := HDA.s.lt; omega) (fun e => by have := (HDA.out e).1; omega)) _ hb' HRA)
                      have HFF := Lib.hid (HFA.trans hfr5)
                      have HSF := Lib.hid hsd5
                      have HOF := Lib.hid hok2.2.2.2
                      clear HQ6 hX hfr5 hsd5 HCL HFA HDA HKA HRA HCA hok2 HQ5
                      go_wp2_with fail
                      refine ⟨⟨j + 1, s2, T2, st.1, vs5, st.2, rv5, HJM.out, rfl, hlv2, HOF.out, hsz3, by rw [show (j + 1) * 6 = j * 6 + 6 by omega]; have := HRF.out; rw [← HDP2.out.2.2] at this; exact this, HFF.out, HSF.out, HQ7.out⟩, ?_⟩
                      have := HJM.out
                      simp [intOf]; omega
end Go.Proofs.Ytjfkoledbegpfaa
