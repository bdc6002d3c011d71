/- The walks of hypostyleref.mostIn, MostLevels. -/
import Derived.Test.YtjfkoledbegpfaaShApp
import Derived.Test.YtjfkoledbegpfaaShK1
namespace Go.Proofs.Ytjfkoledbegpfaa
open Go.RowKit
open Sh (Lv)
set_option linter.unusedVariables false

theorem wpList_append_lv {w : World} {ops : Array Oper} {rest : List Oper} {o : Oper} {a : Act} {Q : Exit → Act → World → Prop} (hgd : o.guard = none) (s x : Operand)
    (ho : o.op = .call { callee := .builtin .append, args := #[s, x], argTypes := #[40, 40] }) (base : Nat)
    (v : Value) (n N : Nat) (xs : List Lv) (hs : a.eval s = v) (hown : w.ownsRow base 43 3 v n (lvals xs))
    (A : Option Addr) (m c : Nat) (l : List Lv) (hm : l.length = m) (hN : N = n + m) (hx : a.eval x = .slice A m c) (hnil : A = none → c = 0) (hu : Lvs w w.heap.size A l)
    (hbytes : N * 24 ≤ 140737488355328) (hbase : base ≤ w.heap.size)
    (h : ∀ A' cp w', w'.ownsRow base 43 3 (.slice A' N cp) N (lvals (xs ++ l)) → Below base w w' → wpList Try.prog ops Q rest (a.put o.dst (.slice A' N cp)) w') : wpList Try.prog ops Q (o :: rest) a w := by
  subst hN
  have sl : ∀ {w' : World} {v' : Value} {xs' : List Value}, w'.ownsRow base 43 3 v' (n + m) xs' → ∃ A' cp, v' = .slice A' (n + m) cp := fun h => by
    rcases h.2 with ⟨rfl, h0⟩ | ⟨g, cap, cur, rfl, -⟩
    · exact ⟨none, 0, by rw [h0]⟩
    · exact ⟨_, _, rfl⟩
  obtain ⟨i, hi, hz0, hz1, hz2⟩ := info_parts info_level
  match A, hnil, hu, hx with
  | none, hnil, hu, hx =>
    have hl : l = [] := by
      by_cases hl : l = []
      · exact hl
      · obtain ⟨b, off, e, _⟩ := hu hl; cases e
    subst hl
    obtain rfl : m = 0 := hm.symm
    obtain rfl : c = 0 := hnil rfl
    obtain ⟨A', cp, rfl⟩ := sl hown
    exact wpList_append_own_none hgd s x 40 ho base 43 i 3 Try.underlying40 hi _ n (lvals xs) hs hown hx (h A' cp w (by simpa using hown) (Below.refl _ _))
  | some ad, hnil, hu, hx =>
    refine wpList_append_own w hgd s x 40 ho base 43 i (.agg #[.int .i64 0, .int .i64 0, .int .u64 0]) 3 24 Try.underlying40 hi hz0 hz1 hz2 rfl (by decide) v n (lvals xs) hs hown ad m c (lvals l) hx (by rw [lvals_length, hm]) ?_ ?_ (by unfold maxLen; omega) hbytes hbase (fun v' w' h1 h2 _ => ?_)
    · intro j u hj
      have hjl : j < l.length * 3 := by
        rcases Nat.lt_or_ge j (l.length * 3) with h | h
        · exact h
        · rw [List.getElem?_eq_none (by rw [lvals_length]; exact h)] at hj; simp at hj
      obtain ⟨b, off, e, _, hc⟩ := hu (by intro e; rw [e] at hjl; simp at hjl)
      have e := Option.some.inj e
      subst e
      have hadd : (⟨b, off, none⟩ : Addr).add j = ⟨b, off + j, none⟩ := by unfold Addr.add; split <;> simp_all
      have hk : j / 3 < l.length := by omega
      obtain ⟨c0, c1, c2⟩ := hc (j / 3) hk
      have g0 := lvals_at l (j / 3) 0 hk (by omega)
      have g1 := lvals_at l (j / 3) 1 hk (by omega)
      have g2 := lvals_at l (j / 3) 2 hk (by omega)
      rw [hadd]
      have h3 : j % 3 = 0 ∨ j % 3 = 1 ∨ j % 3 = 2 := by omega
      rcases h3 with h | h | h
      · rw [show off + j / 3 * 3 = off + j by omega] at c0
        rw [show j / 3 * 3 + 0 = j by omega] at g0
        rw [c0, ← hj, g0]; rfl
      · rw [show off + j / 3 * 3 + 1 = off + j by omega] at c1
        rw [show j / 3 * 3 + 1 = j by omega] at g1
        rw [c1, ← hj, g1]; rfl
      · rw [show off + j / 3 * 3 + 2 = off + j by omega] at c2
        rw [show j / 3 * 3 + 2 = j by omega] at g2
        rw [c2, ← hj, g2]; rfl
    · intro u hu
      simp only [lvals, List.mem_flatMap] at hu
      obtain ⟨x, _, hx⟩ := hu
      exact lvv_one x u hx
    · obtain ⟨A', cp, rfl⟩ := sl h1
      exact h A' cp w' (by rw [lvals_append]; exact h1) ((Below.refl base w).grown h2 hbase (fun k hk => (hown.lt k hk).1))
theorem row_nil {w : World} {B n sz : Nat} {e : TypeId} {A : Option Addr} {cp : Nat} {xs : List Value} (h : w.ownsRow B e sz (.slice A n cp) n xs) : A = none → cp = 0 := by
  intro hA
  subst hA
  rcases h.2 with ⟨h1, -⟩ | ⟨g, cap, cur, h1, -⟩
  · injection h1
  · cases h1

theorem Fds.part {w : World} {B b off p : Nat} {l m rest : List Sh.Fd} (h : Fds w B (some ⟨b, off, none⟩) l) (hd : l.drop p = m ++ rest) : Fds w B (some ⟨b, off + p * 2, none⟩) m := by
  intro hm
  have hlen := congrArg List.length hd
  rw [List.length_drop, List.length_append] at hlen
  have hm1 := List.length_pos_iff.2 hm
  obtain ⟨b', off', e, hb, hc⟩ := h (by intro e; rw [e] at hlen; simp at hlen; omega)
  obtain ⟨rfl, rfl⟩ : b = b' ∧ off = off' := by cases e; exact ⟨rfl, rfl⟩
  refine ⟨b, off + p * 2, rfl, hb, fun i hi => ?_⟩
  have := hc (p + i) (by omega)
  have hg : l.getD (p + i) Sh.fd0 = m.getD i Sh.fd0 := by
    have h1 : (l.drop p)[i]? = (m ++ rest)[i]? := by rw [hd]
    rw [List.getElem?_drop, List.getElem?_append_left hi] at h1
    unfold List.getD
    rw [h1]
  rw [hg, show off + (p + i) * 2 = off + p * 2 + i * 2 by omega] at this
  exact this
/-- levels without a number -/
def mlv (l : List (Nat × Nat)) : List Lv := l.map fun x => ((x.1 : Int), (x.2 : Int), 0)
theorem mlv_append (a b : List (Nat × Nat)) : mlv (a ++ b) = mlv a ++ mlv b := by simp [mlv]
theorem mlv_length (a : List (Nat × Nat)) : (mlv a).length = a.length := by simp [mlv]
theorem most_cons (r : Nat) (k s : Sh.F) (d p : Nat) : Sh.most (.cons r k s) d p = Sh.most (.cons r k .nil) d p ++ Sh.most s d p := by
  show (_ ++ Sh.most s d p) = (_ ++ Sh.most .nil d p) ++ Sh.most s d p
  rw [show Sh.most .nil d p = [] from rfl, List.append_nil]

theorem lvrow_lit {W : World} {base G : Nat} {l : List Lv} (h : W.heap[G]? = some (.cells (lvals l).toArray 43 (0, 0))) (hB : base ≤ G) (hm : l.length ≤ maxLen) : W.ownsRow base 43 3 (.slice (some ⟨G, 0, none⟩) l.length l.length) l.length (lvals l) :=
  ⟨lvals_length l, Or.inr ⟨G, l.length, _, rfl, hB, h, Nat.le_refl _, hm, by simp [lvals_length], by simp [← lvals_length]⟩⟩
theorem own_down {w : World} {B G : Nat} {e : TypeId} {sz : Nat} {v : Value} {n : Nat} {xs : List Value} (h : w.ownsRow B e sz v n xs) (hG : G ≤ B) : w.ownsRow G e sz v n xs := own_base h (fun i hi => Nat.le_trans hG (h.lt i hi).1)
def MostPost (w : World) (l : List Lv) (e : Ending) (w' : World) : Prop :=
  ∃ A cp, e = .returned (.slice A l.length cp) ∧ w'.ownsRow w.heap.size 43 3 (.slice A l.length cp) l.length (lvals l) ∧ Below w.heap.size w w'

set_option maxHeartbeats 4000000 in
set_option maxRecDepth 100000 in
theorem mostIn_any (n : Nat) : ∀ (r : Nat) (k : Sh.F) (d p b off cap B : Nat) (w : World), Sh.size k < n → Fds w B (some ⟨b, off, none⟩) (Sh.flat (.cons r k .nil)) → B ≤ w.heap.size → 1 + Sh.size k ≤ cap → cap ≤ maxLen → d + Sh.size k ≤ 900 → p + Sh.size k ≤ 900 → r ≤ 2 → Sh.ok k →
    Calls Try.prog 39 #[.slice (some ⟨b, off, none⟩) (1 + Sh.size k) cap, .int .i64 p, .int .i64 d] w (MostPost w (mlv (Sh.most (.cons r k .nil) d p))) := by
  induction n with
  | zero => intro r k d p b off cap B w h; omega
  | succ m ih =>
    intro r k d p b off cap B w hsz hu hB hc hcm hd hp hr hok
    have IH := Lib.hid ih
    obtain ⟨L, hLe⟩ : ∃ L, L = 1 + Sh.size k := ⟨_, rfl⟩
    rw [← hLe] at hc ⊢
    have hcm2 := hcm
    unfold maxLen at hcm2
    have hL1 : 1 ≤ L := by omega
    have HUL := Lib.hid hu
    obtain ⟨bb, oo, e0, hbl, hcell⟩ := hu (by simp [Sh.flat])
    obtain ⟨rfl, rfl⟩ : b = bb ∧ off = oo := by cases e0; exact ⟨rfl, rfl⟩
    obtain ⟨h0, h1⟩ := hcell 0 (by simp [Sh.flat])
    rw [show (Sh.flat (.cons r k .nil)).getD 0 Sh.fd0 = ((r : Int), (Sh.len k : Int)) from rfl, Nat.zero_mul, Nat.add_zero] at h0 h1
    simp only at h0 h1
    have HSZ := Lib.hid hsz
    have HOK := Lib.hid hok
    have hkl := Sh.len_le k
    have HLE := Lib.hid hLe
    have hml := Sh.most_length k (dn r d) (rn r p)
    have hlv := Sh.leaves_le k
    obtain ⟨K, hK⟩ : ∃ K, K = Sh.len k := ⟨_, rfl⟩
    rw [← hK] at h1 hkl
    have HK := Lib.hid hK
    have hK9 : K ≤ 900 := by omega
    have hp90 : p ≤ 900 := by omega
    have hd90 : d ≤ 900 := by omega
    have HSK := Lib.hid (show Sh.size k ≤ 900 by omega)
    have hP8 : rn r p ≤ p + 1 := by unfold rn; split <;> omega
    have hD8 : dn r d ≤ d + 1 := by unfold dn; split <;> omega
    have hP9 : rn r p + Sh.size k ≤ 901 := by omega
    have hD9 : dn r d + Sh.size k ≤ 901 := by omega
    have hcase : (((r : Int) == 2) = false ∧ ((r : Int) != 0) = false ∧ (p : Int) = (rn r p : Nat) ∧ (d : Int) = (dn r d : Nat)) ∨ (((r : Int) == 2) = false ∧ ((r : Int) != 0) = true ∧ (p : Int) = (rn r p : Nat) ∧ (d : Int) + 1 = (dn r d : Nat)) ∨ (((r : Int) == 2) = true ∧ ((r : Int) != 0) = true ∧ (p : Int) + 1 = (rn r p : Nat) ∧ (d : Int) + 1 = (dn r d : Nat)) := by
      match r, hr with
      | 0, _ => exact Or.inl ⟨rfl, rfl, rfl, rfl⟩
      | 1, _ => exact Or.inr (Or.inl ⟨rfl, rfl, rfl, rfl⟩)
      | 2, _ => exact Or.inr (Or.inr ⟨rfl, rfl, rfl, rfl⟩)
    have HMC := Lib.hid (show Sh.most (.cons r k .nil) d p = if Sh.isNil k = true then [(rn r p, dn r d)] else Sh.most k (dn r d) (rn r p) by
      show (if Sh.isNil k = true then [(rn r p, dn r d)] else Sh.most k (dn r d) (rn r p)) ++ Sh.most .nil d p = _
      rw [show Sh.most .nil d p = [] from rfl, List.append_nil])
    have HKID := Lib.hid (fun W (hb : Below w.heap.size w W) => show Calls Try.prog 43 #[.slice (some ⟨b, off, none⟩) L cap] W (KidsPost W b off cap k) by
      rw [HLE.out]
      exact kids_any r k b off cap B W (HUL.out.below (hb.mono hB)) (Nat.le_trans hB hb.size) (by have := HSK.out; omega) (by rw [← HLE.out]; exact hc) hcm)
    generalize rn r p = P at *
    generalize dn r d = D at *
    clear ih hu hsz hok hLe e0 hcell hK hd hp hP8 hD8
    by_cases hk0 : k = .nil
    · subst hk0
      obtain rfl : K = 0 := HK.out
      have HRES := Lib.hid (show mlv (Sh.most (.cons r .nil .nil) d p) = [((P : Int), (D : Int), 0)] by rw [HMC.out]; rfl)
      clear HMC hml hlv
      rcases hcase with ⟨g1, g2, hPe, hDe⟩ | ⟨g1, g2, hPe, hDe⟩ | ⟨g1, g2, hPe, hDe⟩
      all_goals
        have HPe := Lib.hid hPe
        have HDe := Lib.hid hDe
        clear hPe hDe
        go_enter Try.func39, Try.ntmps39
        go_wp2_with fail
        go_ret
        rw [HRES.out, HPe.out, HDe.out]
        exact ⟨_, _, rfl, lvrow_lit (heap_alloc_new _ _) (Nat.le_refl _) (by show 1 ≤ maxLen; decide), (Below.refl _ _).alloc (Nat.le_refl _) _⟩
    · have HRES := Lib.hid (show mlv (Sh.most (.cons r k .nil) d p) = mlv (Sh.most k D P) by rw [HMC.out]; cases k with | nil => exact absurd rfl hk0 | cons r' k' s' => rfl)
      have hK1 : 1 ≤ K := by
        rw [HK.out]
        cases k with
        | nil => exact absurd rfl hk0
        | cons r' k' s' => simp only [Sh.len]; omega
      have hKb : ((K : Int) == 0) = false := by rw [beq_eq_false_iff_ne]; omega
      have HML := Lib.hid (show (mlv (Sh.most k D P)).length ≤ 900 by rw [mlv_length, hml]; have := HSK.out; omega)
      have HFL := Lib.hid (show (Sh.flat (.cons r k .nil)).drop 1 = Sh.flat k ++ [] from rfl)
      have HSR := Lib.hid (fun W (hb : Below w.heap.size w W) => HUL.out.below (hb.mono hB))
      clear HMC hml hlv hk0
      rcases hcase with ⟨g1, g2, hPe, hDe⟩ | ⟨g1, g2, hPe, hDe⟩ | ⟨g1, g2, hPe, hDe⟩
      all_goals
        have HPe := Lib.hid hPe
        have HDe := Lib.hid hDe
        clear hPe hDe
        go_enter Try.func39, Try.ntmps39
        go_wp2_with fail
        refine (HKID.out w (Below.refl _ _)).mono ?_
        rintro e w1 ⟨A1, cp1, rfl, hown1, hb1⟩
        rw [← HK.out] at hown1 ⊢
        obtain ⟨g, rfl⟩ : ∃ g, A1 = some ⟨g, 0, none⟩ := by
          rcases hown1.2 with ⟨-, h0⟩ | ⟨g, cap, cur, e, -⟩
          · omega
          · injection e with e1; exact ⟨g, e1⟩
        have HB1 := Lib.hid hb1
        have hgl := (hown1.lt g rfl).2
        have HCE := Lib.hid (fun W (hb : Below w1.heap.size w1 W) j (hj : j < K) => show W.cell? ⟨g, j, none⟩ = (kidV b off cap k 1)[j]? from (hb.cell (p := ⟨g, j, none⟩) hgl).trans (hown1.cellAt j (by omega)))
        clear hown1 hgl hb1 HKID
        rw [HPe.out, HDe.out]
        go_wp2_with fail
        go_loopw [7, 9] (fun v i wr => ∃ (j at_ : Nat) (s : Sh.F) (A : Option Addr) (cp n : Nat) (acc : List Lv) (pre : List Value), j + Sh.len s = K ∧ i = .int .i64 j ∧ v = .slice A n cp ∧ Below w1.heap.size w1 wr ∧ at_ + Sh.size s = L ∧ Sh.size s < L ∧ n ≤ 900 ∧
          Hid (n = acc.length) ∧ Hid (wr.ownsRow w1.heap.size 43 3 (.slice A n cp) n (lvals acc)) ∧ Hid ((Sh.flat (.cons r k .nil)).drop at_ = Sh.flat s ++ []) ∧ Hid (Sh.ok s) ∧ Hid (pre ++ kidV b off cap s at_ = kidV b off cap k 1 ∧ pre.length = j) ∧ Hid (acc ++ mlv (Sh.most s D P) = mlv (Sh.most k D P))) (fun _ i _ => K - (intOf i).toNat)
        case' atStart => exact ⟨0, 1, k, none, 0, 0, [], [], by rw [← HK.out, Nat.zero_add], rfl, rfl, Below.refl _ _, HLE.out.symm, by have := HLE.out; omega, by omega, Lib.hid rfl, Lib.hid (World.ownsRow_nil _ _ _ _), HFL, HOK, Lib.hid ⟨rfl, rfl⟩, Lib.hid rfl⟩
        case' round =>
          obtain ⟨j, at_, s, A, cp, n, acc, pre, hjs, rfl, rfl, hbw, hat, hsL, hn9, HN, HOWN, HDS, HOS, HPR, HAC⟩ := hrel
          rename World => wr
          match s, hjs, hat, hsL, HDS, HOS, HPR, HAC with
          | .nil, hjs, hat, hsL, HDS, HOS, HPR, HAC =>
            simp only [Sh.len, Nat.add_zero] at hjs
            subst hjs
            have hjI : ¬ (j : Int) < (j : Int) := by omega
            have HFIN := Lib.hid (show acc = mlv (Sh.most k D P) by have := HAC.out; rwa [show Sh.most .nil D P = [] from rfl, show mlv [] = [] from rfl, List.append_nil] at this)
            go_wp2_with fail
            go_ret
            rw [HRES.out, ← HFIN.out]
            unfold MostPost
            rw [← HN.out]
            exact ⟨A, cp, rfl, own_down HOWN.out HB1.out.size, below_then HB1.out hbw⟩
          | .cons r' k' s', hjs, hat, hsL, HDS, HOS, HPR, HAC =>
            simp only [Sh.len] at hjs
            simp only [Sh.size] at hat hsL
            have hjI : (j : Int) < (K : Int) := by omega
            have hjK : j < K := by omega
            have hcell : wr.cell? ⟨g, j, none⟩ = some (.slice (some ⟨b, off + at_ * 2, none⟩) (1 + Sh.size k') (cap - at_)) := by
              have hcell := HCE.out wr hbw j hjK
              rw [← HPR.out.1, List.getElem?_append_right (by rw [HPR.out.2]; exact Nat.le_refl _), HPR.out.2, Nat.sub_self] at hcell
              exact hcell
            have hOk := HOS.out
            have HPR2 := Lib.hid (show (pre ++ [Value.slice (some ⟨b, off + at_ * 2, none⟩) (1 + Sh.size k') (cap - at_)]) ++ kidV b off cap s' (at_ + 1 + Sh.size k') = kidV b off cap k 1 ∧ (pre ++ [Value.slice (some ⟨b, off + at_ * 2, none⟩) (1 + Sh.size k') (cap - at_)]).length = j + 1 from ⟨by rw [List.append_assoc]; exact HPR.out.1, by rw [List.length_append, HPR.out.2]; rfl⟩)
            have HAC2 := Lib.hid (show (acc ++ mlv (Sh.most (.cons r' k' .nil) D P)) ++ mlv (Sh.most s' D P) = mlv (Sh.most k D P) by rw [List.append_assoc, ← mlv_append, ← most_cons]; exact HAC.out)
            have hlen := congrArg List.length HAC2.out
            rw [List.length_append, List.length_append] at hlen
            have hml9 := HML.out
            have HBW := Lib.hid (below_then HB1.out hbw)
            have HIH := Lib.hid (IH.out r' k' D P b (off + at_ * 2) (cap - at_) B wr (by have := HSZ.out; have := HLE.out; omega) ((HSR.out wr HBW.out).part (rest := Sh.flat s' ++ []) (by rw [HDS.out]; simp [Sh.flat])) (Nat.le_trans hB HBW.out.size) (by omega) (by unfold maxLen at hcm ⊢; omega) (by have := HLE.out; omega) (by have := HLE.out; omega) hOk.1 hOk.2.2.1)
            have HDS2 := Lib.hid (show (Sh.flat (.cons r k .nil)).drop (at_ + 1 + Sh.size k') = Sh.flat s' ++ [] by
              have h1 : (Sh.flat (.cons r k .nil)).drop at_ = (((r' : Int), (Sh.len k' : Int)) :: Sh.flat k') ++ (Sh.flat s' ++ []) := by rw [HDS.out]; simp [Sh.flat]
              have h2 := drop_more h1
              rw [List.length_cons, Sh.flat_length] at h2
              rw [← h2]; congr 1; omega)
            have HOS2 := Lib.hid hOk.2.2.2
            generalize mlv (Sh.most (.cons r' k' .nil) D P) = kl at *
            obtain ⟨nk, hnk⟩ : ∃ nk, nk = kl.length := ⟨_, rfl⟩
            have HNK := Lib.hid hnk
            have hN2 : n + nk ≤ 900 := by have := HN.out; omega
            have HN2 := Lib.hid (show n + nk = (acc ++ kl).length by rw [List.length_append, ← HN.out, ← HNK.out])
            clear hOk hlen hml9 hnk
            go_wp2_with fail
            refine (HIH.out).mono ?_
            rintro e w2 ⟨A2, cp2, rfl, hown2, hb2⟩
            rw [← HNK.out] at hown2 ⊢
            have HO2 := Lib.hid (row_below HOWN.out hb2)
            have hnl2 := row_nil hown2
            obtain ⟨A3, cp3, e3, hlv3, -⟩ := lvs_row (by rw [← HNK.out]; exact hown2 : w2.ownsRow wr.heap.size 43 3 (.slice A2 nk cp2) kl.length (lvals kl))
            obtain rfl : A2 = A3 := by injection e3
            have HLV := Lib.hid hlv3
            have hB2 : w1.heap.size ≤ w2.heap.size := Nat.le_trans hbw.size hb2.size
            have hb24 : (n + nk) * 24 ≤ 140737488355328 := by omega
            have HB2 := Lib.hid (hbw.trans (hb2.mono hbw.size))
            clear hown2 e3 hlv3 hb2 hbw HIH hcell
            go_wp2_with (at_builtin; refine wpList_append_lv (by rfl) (.tmp 41) (.tmp 48) (by rfl) w1.heap.size _ n (n + nk) acc (by rfl) HO2.out A2 nk cp2 kl HNK.out.symm rfl (by rfl) hnl2 HLV.out hb24 hB2 ?_; intro A9 cp9 w9 hown9 hb9)
            have hB9 := HB2.out.trans hb9
            exact ⟨⟨j + 1, at_ + 1 + Sh.size k', s', A9, cp9, n + nk, acc ++ kl, _, by omega, by go_num, rfl, hB9, by omega, by omega, hN2, HN2, Lib.hid hown9, HDS2, HOS2, HPR2, HAC2⟩, by simp [intOf]; omega⟩

/-- what is most of the one field that a form is -/
theorem mostLevels_any (a : Option Addr) (cap : Nat) (l : List Sh.Fd) (w : World) (hl : l.length ≤ cap) (hcm : cap ≤ maxLen) (hu : Fds w w.heap.size a l) (h0 : Sh.check l = 0) :
    Calls Try.prog 22 #[.slice a l.length cap] w (MostPost w (mlv (Sh.mostK (Sh.formK l)))) := by
  obtain ⟨k, hk, hf, ho, h12⟩ := Sh.check_form h0
  rw [Sh.formK_is hf]
  have hlen : l.length = 1 + Sh.size k := by rw [← hf, Sh.flat_length]; rfl
  obtain ⟨b, off, rfl, -⟩ := hu (by intro e; rw [e] at hlen; simp at hlen; omega)
  have hsz : Sh.size k ≤ 12 := by omega
  rw [← hf] at hu
  have HM := Lib.hid (mostIn_any (Sh.size k + 1) 0 k 0 0 b off cap w.heap.size w (Nat.lt_succ_self _) hu (Nat.le_refl _) (by omega) hcm (by omega) (by omega) (by omega) ho.2.2.1)
  rw [← hlen] at HM
  clear hu hlen hsz ho hf h12 hk h0
  unfold Sh.mostK
  generalize mlv (Sh.most (.cons 0 k .nil) 0 0) = ml at *
  generalize l.length = L at *
  go_enter Try.func22, Try.ntmps22
  go_wp2_with fail
  refine (HM.out).mono ?_
  rintro e w1 ⟨A, cp, rfl, h1, h2⟩
  go_wp2_with fail
  go_ret
  exact ⟨A, cp, rfl, h1, h2⟩
end Go.Proofs.Ytjfkoledbegpfaa
