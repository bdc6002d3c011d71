/- ShJ8, ShJ9, ShJA, ShJB. -/
import Derived.Test.YtjfkoledbegpfaaShJy
import Derived.Test.YtjfkoledbegpfaaShK5
import Derived.Test.YtjfkoledbegpfaaShKc
import Derived.Test.YtjfkoledbegpfaaShSm
/- The walk of hypostyleref.joinInner. -/
namespace Go.Proofs.Ytjfkoledbegpfaa
open Go.RowKit
open Sh (Lv lsum cutAll jAll jOne jIn jal)
set_option linter.unusedVariables false

theorem jIn_none {P D : Nat} {cs : List (List Lv)} (h : (cs.getD 0 []).length ≠ 1) : jIn .nil P D cs = none := by
  have e0 : cs.getD 0 [] = cs.headD [] := by cases cs <;> rfl
  have e1 : jIn .nil P D cs = match cs.headD [] with | [x] => some [x.2.2] | _ => none := if_pos rfl
  rw [e1]
  rw [e0] at h
  generalize cs.headD [] = c at *
  match c, h with
  | [], _ => rfl
  | [x], h => exact absurd rfl h
  | _ :: _ :: _, _ => rfl
theorem jIn_one {P D : Nat} {cs : List (List Lv)} {x : Lv} (h : cs.getD 0 [] = [x]) : jIn .nil P D cs = some [x.2.2] := by
  have e0 : cs.getD 0 [] = cs.headD [] := by cases cs <;> rfl
  have e1 : jIn .nil P D cs = match cs.headD [] with | [x] => some [x.2.2] | _ => none := if_pos rfl
  rw [e1, ← e0, h]
theorem LRows.drop {w : World} {B b off : Nat} {l : List (List Lv)} (h : LRows w B (some ⟨b, off, none⟩) l) (n : Nat) : LRows w B (some ⟨b, off + n, none⟩) (l.drop n) := by
  obtain ⟨news, h1, h2, h3⟩ := h
  have hg : ∀ i, (l.drop n).getD i [] = l.getD (n + i) [] := fun i => by unfold List.getD; rw [List.getElem?_drop]
  have hv : ∀ i, (news.drop n).getD i undef = news.getD (n + i) undef := fun i => by unfold List.getD; rw [List.getElem?_drop]
  refine ⟨news.drop n, by simp [h1], fun i hi => ?_, fun hne => ?_⟩
  · rw [List.length_drop] at hi
    rw [hg, hv]
    exact h2 _ (by omega)
  · obtain ⟨b', off', e, hlt, hc⟩ := h3 (fun e => hne (by rw [e]; simp))
    injection e with e
    injection e with x1 x2
    subst x1
    subst x2
    refine ⟨b, off + n, rfl, hlt, fun i hi => ?_⟩
    rw [List.length_drop] at hi
    rw [Nat.add_assoc, hc _ (by omega), List.getElem?_drop]
theorem jal_round {r D P : Nat} {k s : Sh.F} {cols : List (List Lv)} {acc : List Nat} {R : Option (List Nat)} (h : R = (jal (.cons r k s) P D cols).bind fun y => some (acc ++ y)) :
    (jOne (jIn k) r P D (cols.take (lv1 k)) = none → R = none) ∧ ∀ a, jOne (jIn k) r P D (cols.take (lv1 k)) = some a → R = (jal s P D (cols.drop (lv1 k))).bind fun y => some ((acc ++ a) ++ y) := by
  rw [Sh.jal_cons] at h
  refine ⟨fun e => by rw [h, e]; rfl, fun a e => ?_⟩
  rw [h, e]
  simp only [Option.bind_some]
  cases jal s P D (cols.drop (lv1 k)) with
  | none => rfl
  | some y => simp only [Option.bind_some, List.append_assoc]

set_option maxHeartbeats 4000000 in
set_option maxRecDepth 100000 in
theorem jinner_leaf : JInnerC .nil := by
  intro r D P b off cap B ca ccap cs w hu hB hc hcm hD hP hok hcl hcc hccm hls hrw
  obtain ⟨bb, oo, e0, hbl, hcell⟩ := hu (by simp [Sh.flat])
  obtain ⟨rfl, rfl⟩ : b = bb ∧ off = oo := by cases e0; exact ⟨rfl, rfl⟩
  obtain ⟨-, h1⟩ := hcell 0 (by simp [Sh.flat])
  rw [show (Sh.flat (.cons r .nil .nil)).getD 0 Sh.fd0 = ((r : Int), 0) from rfl, Nat.zero_mul, Nat.add_zero] at h1
  simp only at h1
  have e1 : lv1 .nil = 1 := rfl
  have e2 : 1 + Sh.size .nil = 1 := rfl
  rw [e1] at hcl hcc
  rw [e2] at hc
  rw [e1, e2]
  have hcm2 := hcm
  unfold maxLen at hcm2
  have hccm2 := hccm
  unfold maxLen at hccm2
  obtain ⟨b2, off2, aa, cap2, rfl, hb2, k0, hlvs, -⟩ := hrw.at (i := 0) (by omega)
  rw [Nat.add_zero] at k0
  clear e0 hcell hu hok e1 e2 hD hP hls hrw hcl
  by_cases hz : (cs.getD 0 []).length = 1
  · obtain ⟨x, hx⟩ := List.length_eq_one_iff.1 hz
    rw [jIn_one hx]
    rw [hx] at k0 hlvs
    obtain ⟨b3, off3, rfl, hb3, hlv⟩ := hlvs (by simp)
    have k1 := (hlv 0 (by simp)).2.2
    rw [Nat.zero_mul, Nat.add_zero, show ([x] : List Lv).getD 0 (0, 0, 0) = x from rfl] at k1
    rw [show ([x] : List Lv).length = 1 from rfl] at k0
    have HBN := Lib.hid ((Below.refl w.heap.size w).alloc (Nat.le_refl _) (.cells #[.int .u64 (x.2.2 : Nat)] 41))
    have HRR := Lib.hid (show NumRow w.heap.size [x.2.2] (.slice (some ⟨w.heap.size, 0, none⟩) 1 1) (w.alloc (.cells #[.int .u64 (x.2.2 : Nat)] 41)) from World.ownsRow_lit (base := w.heap.size) (e := 41) (size := 1) w #[.int .u64 (x.2.2 : Nat)] 1 (Nat.le_refl _) (by decide) rfl)
    generalize x.2.2 = nx at *
    clear hx hlvs hlv hz
    go_enter Try.func37, Try.ntmps37
    go_wp2_with fail
    refine bodyPost_ret (v := .tuple #[.slice (some ⟨w.heap.size, 0, none⟩) 1 1, .bool true]) (by simp [results, Try.results37, go_sem]) rfl ⟨HBN.out, ?_⟩
    exact ⟨_, _, _, rfl, rfl, HRR.out⟩
  · rw [jIn_none hz]
    obtain ⟨ll, hll⟩ : ∃ n, n = (cs.getD 0 []).length := ⟨_, rfl⟩
    rw [← hll] at k0 hz
    have hzI : ((ll : Int) != 1) = true := by rw [bne_iff_ne]; omega
    clear hlvs hll hz
    go_enter Try.func37, Try.ntmps37
    go_wp2_with fail
    exact bodyPost_ret (v := .tuple #[.slice none 0 0, .bool false]) (by simp [results, Try.results37, go_sem]) rfl ⟨Below.refl _ _, rfl⟩
end Go.Proofs.Ytjfkoledbegpfaa
/- The walk of hypostyleref.joinInner above kids. -/
namespace Go.Proofs.Ytjfkoledbegpfaa
open Go.RowKit
open Sh (Lv lsum cutAll jAll jOne jIn jal)
set_option linter.unusedVariables false

set_option maxHeartbeats 4000000 in
set_option maxRecDepth 100000 in
theorem jinner_kids (k : Sh.F) (hk0 : k ≠ .nil) (HF : ∀ k', Sh.size k' < Sh.size k → JFieldC k') : JInnerC k := by
  intro r D P b off cap B ca ccap cs w hu hB hc hcm hD hP hok hcl hcc hccm hls hrw
  have HFC := Lib.hid HF
  obtain ⟨L, hLe⟩ : ∃ L, L = 1 + Sh.size k := ⟨_, rfl⟩
  rw [← hLe] at hc ⊢
  have hcm2 := hcm
  unfold maxLen at hcm2
  have hccm2 := hccm
  unfold maxLen at hccm2
  have hL1 : 1 ≤ L := by omega
  have HUL := Lib.hid hu
  obtain ⟨bb, oo, e0, hbl, hcell⟩ := hu (by simp [Sh.flat])
  obtain ⟨rfl, rfl⟩ : b = bb ∧ off = oo := by cases e0; exact ⟨rfl, rfl⟩
  obtain ⟨-, h1⟩ := hcell 0 (by simp [Sh.flat])
  rw [show (Sh.flat (.cons r k .nil)).getD 0 Sh.fd0 = ((r : Int), (Sh.len k : Int)) from rfl, Nat.zero_mul, Nat.add_zero] at h1
  simp only at h1
  have HOK := Lib.hid hok.2.2.1
  have hkl := Sh.len_le k
  have HLE := Lib.hid hLe
  have hlv := Sh.leaves_le k
  have hlv1 : lv1 k = Sh.leaves k := by cases k with | nil => exact absurd rfl hk0 | cons r' k' s' => rfl
  obtain ⟨NL, hNL⟩ : ∃ n, n = Sh.leaves k := ⟨_, rfl⟩
  rw [hlv1, ← hNL] at hcl hcc
  rw [hlv1, ← hNL]
  have HNL := Lib.hid hNL
  obtain ⟨K, hK⟩ : ∃ K, K = Sh.len k := ⟨_, rfl⟩
  rw [← hK] at h1 hkl
  have HK := Lib.hid hK
  have hK9 : K ≤ 900 := by omega
  have hNL9 : NL ≤ 900 := by omega
  have HSK := Lib.hid (show D + Sh.size k ≤ 900 ∧ P + Sh.size k ≤ 900 from ⟨hD, hP⟩)
  have hD9 : D ≤ 900 := by omega
  have hP9 : P ≤ 900 := by omega
  have HKID := Lib.hid (fun W (hb : Below w.heap.size w W) => show Calls Try.prog 43 #[.slice (some ⟨b, off, none⟩) L cap] W (KidsPost W b off cap k) by
    rw [HLE.out]
    exact kids_any r k b off cap B W (HUL.out.below (hb.mono hB)) (Nat.le_trans hB hb.size) (by have := HSK.out; omega) (by rw [← HLE.out]; exact hc) hcm)
  have hK1 : 1 ≤ K := by
    rw [hK]
    cases k with
    | nil => exact absurd rfl hk0
    | cons r' k' s' => simp only [Sh.len]; omega
  have hKb : ((K : Int) == 0) = false := by rw [beq_eq_false_iff_ne]; omega
  have HFL := Lib.hid (show (Sh.flat (.cons r k .nil)).drop 1 = Sh.flat k ++ [] from rfl)
  have HSR := Lib.hid (fun W (hb : Below w.heap.size w W) => HUL.out.below (hb.mono hB))
  have HRW := Lib.hid (fun W (hb : Below w.heap.size w W) => hrw.next hb)
  obtain ⟨b2, off2, hca⟩ : ∃ b2 off2, ca = some ⟨b2, off2, none⟩ := by
    have hl0 : 0 < NL := by
      have := lv1_pos k
      omega
    obtain ⟨b2, off2, aa, cap2, e1, -⟩ := hrw.at (i := 0) (by omega)
    exact ⟨b2, off2, e1⟩
  subst hca
  have HCL := Lib.hid hcl
  have HLS := Lib.hid hls
  have HCC := Lib.hid hccm
  have HCP := Lib.hid hc
  have HCM := Lib.hid hcm
  obtain ⟨R, hR⟩ : ∃ R, R = jIn k P D cs := ⟨_, rfl⟩
  have HR0 := Lib.hid (show R = (jal k P D (cs.drop 0)).bind fun y => some ([] ++ y) by
    rw [hR, List.drop_zero]
    have e : jIn k P D cs = jal k P D cs := by cases k with | nil => exact absurd rfl hk0 | cons r' k' s' => rfl
    rw [e]
    cases jal k P D cs with
    | none => rfl
    | some y => rfl)
  rw [← hR]
  clear HF hu hok hLe e0 hcell hK hD hP hR hlv hlv1 hk0 hNL hrw hls hcl hcm
  go_enter Try.func37, Try.ntmps37
  go_wp2_with fail
  refine (HKID.out w (Below.refl _ _)).mono ?_
  rintro e w1 ⟨A1, cp1, rfl, hown1, hb1⟩
  rw [← HK.out] at hown1 ⊢
  obtain ⟨g, rfl⟩ : ∃ g, A1 = some ⟨g, 0, none⟩ := by
    rcases hown1.2 with ⟨-, h0⟩ | ⟨g, cap, cur, e, -⟩
    · omega
    · injection e with e1; exact ⟨g, e1⟩
  have HB1 := Lib.hid hb1
  have hgl := (hown1.lt g rfl).2
  have HCE := Lib.hid (fun W (hb : Below w1.heap.size w1 W) j (hj : j < K) => show W.cell? ⟨g, j, none⟩ = (kidV b off cap k 1)[j]? from (hb.cell (p := ⟨g, j, none⟩) hgl).trans (hown1.cellAt j (by omega)))
  clear hown1 hgl hb1 HKID
  go_wp2_with fail
  go_loopw [11, 12, 13, 14, 15, 16] (fun out at9 i _ _ _ wr => ∃ (j at_ : Nat) (s : Sh.F) (A2 : Option Addr) (n cp2 na : Nat) (acc : List Nat) (pre : List Value), j + Sh.len s = K ∧ i = .int .i64 j ∧ out = .slice A2 n cp2 ∧ at9 = .int .i64 na ∧ Below w1.heap.size w1 wr ∧ at_ + Sh.size s = L ∧ Sh.size s < L ∧ na ≤ NL ∧
    Hid (n = acc.length) ∧ Hid (na + Sh.leaves s = NL) ∧ Hid (NumRow w1.heap.size acc (.slice A2 n cp2) wr) ∧ Hid ((Sh.flat (.cons r k .nil)).drop at_ = Sh.flat s ++ []) ∧ Hid (Sh.ok s) ∧ Hid (pre ++ kidV b off cap s at_ = kidV b off cap k 1 ∧ pre.length = j) ∧ Hid (acc.length + L * lsum (cs.drop na) ≤ L * lsum cs) ∧ Hid (R = (jal s P D (cs.drop na)).bind fun y => some (acc ++ y))) (fun _ _ i _ _ _ _ => K - (intOf i).toNat)
  case atStart => exact ⟨0, 1, k, none, 0, 0, 0, [], [], by rw [← HK.out, Nat.zero_add], rfl, rfl, rfl, Below.refl _ _, HLE.out.symm, by have := HLE.out; omega, Nat.zero_le _, Lib.hid rfl, Lib.hid (by rw [Nat.zero_add]; exact HNL.out.symm), Lib.hid (World.ownsRow_nil _ _ _ _), HFL, HOK, Lib.hid ⟨rfl, rfl⟩, Lib.hid (by rw [List.drop_zero, List.length_nil, Nat.zero_add]; exact Nat.le_refl _), HR0⟩
  case round =>
    obtain ⟨j, at_, s, A2, n, cp2, na, acc, pre, hjs, rfl, rfl, rfl, hbw, hat, hsL, hna, HN, HNA, HNR, HDS, HOS, HPR, HBD, HRR⟩ := hrel
    rename World => wr
    match s, hjs, hat, hsL, HNA, HDS, HOS, HPR, HRR with
    | .nil, hjs, hat, hsL, HNA, HDS, HOS, HPR, HRR =>
      simp only [Sh.len, Nat.add_zero] at hjs
      subst hjs
      have hjI : ¬ (j : Int) < (j : Int) := by omega
      have HRF := Lib.hid (show R = some acc by rw [HRR.out]; show some (acc ++ []) = _; rw [List.append_nil])
      have HBF := Lib.hid (below_then HB1.out hbw)
      have HWS := Lib.hid HB1.out.size
      clear hbw
      go_wp2_with fail
      refine bodyPost_ret (v := .tuple #[.slice A2 n cp2, .bool true]) (by simp [results, Try.results37, go_sem]) rfl ⟨HBF.out, ?_⟩
      rw [HRF.out]
      exact ⟨_, _, _, rfl, HN.out, own_down HNR.out HWS.out⟩
    | .cons r' k' s', hjs, hat, hsL, HNA, HDS, HOS, HPR, HRR =>
      simp only [Sh.len] at hjs
      simp only [Sh.size] at hat hsL
      have hjI : (j : Int) < (K : Int) := by omega
      have hjK : j < K := by omega
      have hcell : ∀ W, Below wr.heap.size wr W → W.cell? ⟨g, j, none⟩ = some (.slice (some ⟨b, off + at_ * 2, none⟩) (1 + Sh.size k') (cap - at_)) := fun W hb => by
        have hcell := HCE.out W (hbw.trans (hb.mono hbw.size)) j hjK
        rw [← HPR.out.1, List.getElem?_append_right (by rw [HPR.out.2]; exact Nat.le_refl _), HPR.out.2, Nat.sub_self] at hcell
        exact hcell
      have hOk := HOS.out
      have HPR2 := Lib.hid (show (pre ++ [Value.slice (some ⟨b, off + at_ * 2, none⟩) (1 + Sh.size k') (cap - at_)]) ++ kidV b off cap s' (at_ + 1 + Sh.size k') = kidV b off cap k 1 ∧ (pre ++ [Value.slice (some ⟨b, off + at_ * 2, none⟩) (1 + Sh.size k') (cap - at_)]).length = j + 1 from ⟨by rw [List.append_assoc]; exact HPR.out.1, by rw [List.length_append, HPR.out.2]; rfl⟩)
      have HBW := Lib.hid (below_then HB1.out hbw)
      have hF0 : Fds wr B (some ⟨b, off + at_ * 2, none⟩) (Sh.flat (.cons r' k' .nil)) := (HSR.out wr HBW.out).part (rest := Sh.flat s' ++ []) (by rw [HDS.out]; simp [Sh.flat])
      have HNA2 := Lib.hid (show (na + lv1 k') + Sh.leaves s' = NL by have := HNA.out; rw [leaves_cons] at this; omega)
      have HLO := Lib.hid (leavesOf_any (some ⟨b, off + at_ * 2, none⟩) (cap - at_) (Sh.flat (.cons r' k' .nil)) wr B (by rw [Sh.flat_length]; have e : Sh.size (.cons r' k' .nil) = 1 + Sh.size k' + 0 := rfl; have := HSK.out; have := HLE.out; omega) hF0)
      rw [lvs_one, show (Sh.flat (.cons r' k' .nil)).length = 1 + Sh.size k' by rw [Sh.flat_length]; rfl] at HLO
      have hld : lsum (cs.drop na) ≤ lsum cs := by have := Sh.lsum_take_drop cs na; omega
      have hlt := Sh.lsum_take_drop (cs.drop na) (lv1 k')
      have hdl : ((cs.drop na).take (lv1 k')).length = lv1 k' := by rw [List.length_take, List.length_drop, HCL.out]; have := HNA2.out; omega
      have HIH := Lib.hid (fun W (hb : Below wr.heap.size wr W) => HFC.out k' (by have := HLE.out; omega) r' D P b (off + at_ * 2) (cap - at_) B (some ⟨b2, off2 + na, none⟩) (ccap - na) ((cs.drop na).take (lv1 k')) W (hF0.below (hb.mono (Nat.le_trans hB HBW.out.size))) (Nat.le_trans hB (Nat.le_trans HBW.out.size hb.size)) (by have := HCP.out; omega) (by have := HCM.out; unfold maxLen at this ⊢; omega) (by have := HLE.out; have := HSK.out; omega) (by have := HLE.out; have := HSK.out; omega) ⟨hOk.1, hOk.2.1, hOk.2.2.1, trivial⟩ hdl (by have := HNA2.out; omega) (by have := HCC.out; unfold maxLen at this ⊢; omega) (by have := HLS.out; omega) (((HRW.out W (HBW.out.trans (hb.mono HBW.out.size))).drop na).take (lv1 k')))
      have HDS2 := Lib.hid (show (Sh.flat (.cons r k .nil)).drop (at_ + 1 + Sh.size k') = Sh.flat s' ++ [] by
        have h1 : (Sh.flat (.cons r k .nil)).drop at_ = (((r' : Int), (Sh.len k' : Int)) :: Sh.flat k') ++ (Sh.flat s' ++ []) := by rw [HDS.out]; simp [Sh.flat]
        have h2 := drop_more h1
        rw [List.length_cons, Sh.flat_length] at h2
        rw [← h2]; congr 1; omega)
      have HOS2 := Lib.hid hOk.2.2.2
      have HRD := Lib.hid (jal_round HRR.out)
      have HJL := Lib.hid (fun a (h : jOne (jIn k') r' P D ((cs.drop na).take (lv1 k')) = some a) => show a.length ≤ L * lsum ((cs.drop na).take (lv1 k')) from Nat.le_trans (Sh.jOne_len (fun P D x y hx hy => Sh.jIn_len k' P D x y hx hy) (lv1_pos k') hdl h) (Nat.mul_le_mul_right _ (by omega)))
      rw [List.drop_drop] at HRD hlt
      have HLT := Lib.hid hlt
      have hl1 : 0 < lv1 k' := lv1_pos k'
      generalize jOne (jIn k') r' P D ((cs.drop na).take (lv1 k')) = X at *
      obtain ⟨L', hL'⟩ : ∃ L', L' = lv1 k' := ⟨_, rfl⟩
      rw [← hL'] at hl1 HIH HNA2 HLO HLT HRD HJL
      have hna2 : na + L' ≤ NL := by have := HNA2.out; omega
      have s1 : (na : Int) ≤ (na : Int) + (L' : Int) := by omega
      have s2 : (na : Int) + (L' : Int) ≤ (ccap : Int) := by omega
      have hself := Below.refl wr.heap.size wr
      clear hOk hL' hF0 hld hlt hdl
      have HBL := Lib.hid hbw
      have HNL9 := Lib.hid (show L ≤ 901 by have := HLE.out; have := HSK.out; omega)
      clear hbw
      cases X with
      | none =>
        have HRN := Lib.hid (HRD.out.1 rfl)
        have c0 := hcell wr (Below.refl _ _)
        go_wp2_with fail
        refine (HLO.out).mono ?_
        rintro e w2 ⟨rfl, rfl⟩
        go_wp2_with fail
        have z1 : IntKind.i64.wrap ((na : Int) + (L' : Int)) = (na : Int) + (L' : Int) := IntWalk.i64_in _ (by omega)
        have z3 : ¬ ccap = na := by omega
        have z2 : ((na : Int) + (L' : Int)).toNat = na + L' := by omega
        go_region_held3 (fun W => Below wr.heap.size wr W)
          (first
            | assumption
            | exact (show Below wr.heap.size wr _ by assumption).drew
            | exact hS9
            | exact hS9.drew)
          (first
            | (go_at_call 46; refine Calls.mono (HIH.out _ (by first | assumption | exact hself.drew)) ?_; rintro e w9 ⟨hb9, rfl⟩; have hS9 : Below wr.heap.size wr w9 := Below.trans (show Below wr.heap.size wr _ by first | assumption | exact hself.drew) hb9))
        clear z1 z2 z3 c0 hcell hself
        have HB2 := Lib.hid (below_then HBW.out hS9)
        clear hS9
        go_wp2_with fail
        refine bodyPost_ret (v := .tuple #[.slice none 0 0, .bool false]) (by simp [results, Try.results37, go_sem]) rfl ⟨HB2.out, ?_⟩
        rw [HRN.out]
      | some a =>
        have HRN := Lib.hid (HRD.out.2 a rfl)
        have c0 := hcell wr (Below.refl _ _)
        go_wp2_with fail
        refine (HLO.out).mono ?_
        rintro e w2 ⟨rfl, rfl⟩
        go_wp2_with fail
        have z1 : IntKind.i64.wrap ((na : Int) + (L' : Int)) = (na : Int) + (L' : Int) := IntWalk.i64_in _ (by omega)
        have z3 : ¬ ccap = na := by omega
        have z2 : ((na : Int) + (L' : Int)).toNat = na + L' := by omega
        go_region_held3 (fun W => Below wr.heap.size wr W)
          (first
            | assumption
            | exact (show Below wr.heap.size wr _ by assumption).drew
            | exact hS9
            | exact hS9.drew)
          (first
            | (go_at_call 46; refine Calls.mono (HIH.out _ (by first | assumption | exact hself.drew)) ?_; rintro e w9 ⟨hb9, A3, n3, cp3, rfl, hn3, hr3⟩; have HN3 := Lib.hid hn3; clear hn3; have hS9 : Below wr.heap.size wr w9 := Below.trans (show Below wr.heap.size wr _ by first | assumption | exact hself.drew) hb9))
        clear z1 z2 z3 c0 hcell hself
        obtain ⟨hsrc, hnil⟩ := numRow_src hr3
        have hown := row_below HNR.out hS9
        rw [← HN.out] at hown
        have HB9 := Lib.hid (HBL.out.trans (hS9.mono HBL.out.size))
        have hsz := HB9.out.size
        have HBD2 := Lib.hid (show (acc ++ a).length + L * lsum (cs.drop (na + L')) ≤ L * lsum cs by
          have h1 := HBD.out
          have h2 := HJL.out a rfl
          rw [← HLT.out, Nat.mul_add] at h1
          rw [List.length_append]
          omega)
        have hbytes : (n + n3) * 8 ≤ 140737488355328 := by
          have h1 := HBD2.out
          rw [List.length_append, ← HN3.out] at h1
          have h2 : L * lsum cs ≤ 901 * 1048576 := Nat.mul_le_mul HNL9.out HLS.out
          have := HN.out
          omega
        have hn3' := HN3.out.symm
        clear hr3 hb9 hS9 HJL HRD HIH HLO
        go_wp2_with (at_builtin; refine wpList_append_nums rfl (.tmp 65) (.tmp 66) rfl w1.heap.size _ n _ rfl hown A3 n3 cp3 a hn3' rfl hnil hsrc hbytes hsz ?_; intro v' w4 hown4 hgrow4)
        have HB4 := Lib.hid (HB9.out.grown hgrow4 hsz (fun k hk => (hown.lt k hk).1))
        have hr4 : NumRow w1.heap.size (acc ++ a) v' w4 := by
          unfold NumRow
          rw [List.length_append, ← HN.out, hn3', show nv (acc ++ a) = nv acc ++ nv a by simp [nv]]
          exact hown4
        obtain ⟨A4, cp4, rfl, -⟩ := numRow_nums hr4
        obtain ⟨n4, hn4⟩ : ∃ n, n = (acc ++ a).length := ⟨_, rfl⟩
        rw [← hn4] at hr4 ⊢
        have HR4 := Lib.hid hr4
        have HN4 := Lib.hid hn4
        clear hown hown4 hgrow4 hr4 hn4 hsrc hnil hn3' hbytes hsz
        go_wp2_with fail
        exact ⟨⟨j + 1, at_ + 1 + Sh.size k', s', A4, n4, cp4, na + L', acc ++ a, _, by omega, by go_num, rfl, by go_num, HB4.out, by omega, by omega, hna2, HN4, HNA2, HR4, HDS2, HOS2, HPR2, HBD2, HRN⟩, by simp [intOf]; omega⟩
theorem jinner_all (n : Nat) : ∀ k, Sh.size k < n → JInnerC k := by
  induction n with
  | zero => intro k h; omega
  | succ m ih =>
    intro k hk
    by_cases h0 : k = .nil
    · subst h0; exact jinner_leaf
    · exact jinner_kids k h0 (fun k' h' => jfield_of k' (ih k' (by omega)))
theorem jinner_any (k : Sh.F) : JInnerC k := jinner_all _ k (Nat.lt_succ_self _)
end Go.Proofs.Ytjfkoledbegpfaa
/- Records in a row of one's own. -/
namespace Go.Proofs.Ytjfkoledbegpfaa
open Go.RowKit
open Sh (Lv lsum cutAll jAll jOne jIn jal)
set_option linter.unusedVariables false

theorem info_nus : (Try.prog.info? 47).map (fun i => (i.zero, i.size, i.bytes)) = some (some (.slice none 0 0), 1, 24) := by kernel_rfl
/-- lists of numbers in a row of one's own, each a row of one's own too -/
def NOut (w : World) (B : Nat) (v : Value) (n : Nat) (D : List (List Nat)) : Prop :=
  D.length = n ∧ ∃ vs, w.ownsRow B 47 1 v n vs ∧ ∀ i, i < n → NumRow B (D.getD i []) (vs.getD i undef) w
theorem NOut.next {w w' : World} {B n : Nat} {v : Value} {D : List (List Nat)} (h : NOut w B v n D) (hb : Below w.heap.size w w') : NOut w' B v n D := by
  obtain ⟨h1, vs, h2, h3⟩ := h
  exact ⟨h1, vs, row_below h2 hb, fun i hi => row_below (h3 i hi) hb⟩
theorem NOut.down {w : World} {B G n : Nat} {v : Value} {D : List (List Nat)} (h : NOut w B v n D) (hG : G ≤ B) : NOut w G v n D := by
  obtain ⟨h1, vs, h2, h3⟩ := h
  exact ⟨h1, vs, own_down h2 hG, fun i hi => own_down (h3 i hi) hG⟩
theorem NOut.nil (w : World) (B : Nat) : NOut w B (.slice none 0 0) 0 [] := ⟨rfl, [], World.ownsRow_nil _ _ _ _, fun i hi => absurd hi (Nat.not_lt_zero _)⟩
theorem NOut.room {w : World} {B n cp : Nat} {A : Option Addr} {D : List (List Nat)} (h : NOut w B (.slice A n cp) n D) : n ≤ cp ∧ cp ≤ maxLen ∧ (A = none → cp = 0) := by
  obtain ⟨h1, vs, h2, h3⟩ := h
  rcases h2.2 with ⟨e, h0⟩ | ⟨g, cap, cur, e, e2, e3, e4, e5, -⟩
  · injection e with x1 x2 x3
    subst x3
    exact ⟨by omega, by unfold maxLen; omega, fun _ => rfl⟩
  · injection e with x1 x2 x3
    subst x1
    subst x3
    exact ⟨e4, e5, fun e => by cases e⟩
theorem numRow_room {B : Nat} {xs : List Nat} {v : Value} {w : World} (h : NumRow B xs v w) : ∃ a c, v = .slice a xs.length c ∧ Nums w w.heap.size a xs ∧ xs.length ≤ c ∧ c ≤ maxLen ∧ (a = none → c = 0) := by
  have h' := h
  unfold NumRow at h
  rcases h.2 with ⟨rfl, h0⟩ | ⟨g, cap, cur, rfl, e2, e3, e4, e5, _⟩
  · refine ⟨none, 0, by rw [h0], ?_, by omega, by unfold maxLen; omega, fun _ => rfl⟩
    rw [List.eq_nil_of_length_eq_zero h0]; exact Nums.nil _ _ _
  · obtain ⟨a, c, e, hn⟩ := numRow_nums h'
    injection e with x1 x2 x3
    subst x1 x3
    exact ⟨_, _, rfl, hn, e4, e5, fun e => by cases e⟩
theorem NOut.rows {w : World} {B n cp : Nat} {A : Option Addr} {D : List (List Nat)} (h : NOut w B (.slice A n cp) n D) (hok : ∀ r ∈ D, ∀ x ∈ r, x < 18446744073709551616) : NRows w w.heap.size A D := by
  obtain ⟨h1, vs, h2, h3⟩ := h
  intro hne
  have hvl : vs.length = n := by rw [h2.1, Nat.mul_one]
  rcases h2.2 with ⟨e, h0⟩ | ⟨g, cap, cur, e, -⟩
  · exact absurd (List.eq_nil_of_length_eq_zero (by omega)) hne
  · injection e with e1 e2 e3
    subst e1
    refine ⟨g, 0, rfl, (h2.lt g rfl).2, fun i hi => ?_⟩
    obtain ⟨ra, rc, f1, f2, f3, f4, -⟩ := numRow_room (h3 i (by omega))
    refine ⟨ra, rc, ?_, f2, f3, f4, fun x hx => hok (D.getD i []) ?_ x hx⟩
    · rw [Nat.zero_add, h2.cellAt i (by omega), ← f1]; simp [List.getD, List.getElem?_eq_getElem (show i < vs.length by omega)]
    · rw [show D.getD i [] = D[i] by simp [List.getD, List.getElem?_eq_getElem hi]]; exact List.getElem_mem hi
/-- one record more -/
theorem NOut.snoc {w w' : World} {B n : Nat} {v v' y : Value} {D : List (List Nat)} {l : List Nat} {vs : List Value} (hn : D.length = n) (h2 : w.ownsRow B 47 1 v n vs) (h3 : ∀ i, i < n → NumRow B (D.getD i []) (vs.getD i undef) w)
    (hy : NumRow B l y w) (hr : w'.ownsRow B 47 1 v' (n + 1) (vs ++ [y])) (hg : w.grownBy w' v.ownBlock) : NOut w' B v' (n + 1) (D ++ [l]) := by
  have hvl : vs.length = n := by rw [h2.1, Nat.mul_one]
  have keep : ∀ {u : Value} {m : Nat} {xs : List Value}, w.ownsRow B 41 1 u m xs → w'.ownsRow B 41 1 u m xs := fun {u m xs} h => own_block h (fun i e => hg.block i (h.lt i e).2 (fun e2 => kinds h h2 (by decide) e e2.symm))
  refine ⟨by rw [List.length_append, hn]; rfl, _, hr, fun i hi => ?_⟩
  by_cases hlt : i < n
  · have e1 : (vs ++ [y]).getD i undef = vs.getD i undef := by unfold List.getD; rw [List.getElem?_append_left (by omega)]
    have e2 : (D ++ [l]).getD i [] = D.getD i [] := by unfold List.getD; rw [List.getElem?_append_left (by omega)]
    rw [e1, e2]; exact keep (h3 i hlt)
  · have hi' : i = n := by omega
    subst hi'
    have e1 : (vs ++ [y]).getD i undef = y := by unfold List.getD; rw [List.getElem?_append_right (by omega), hvl, Nat.sub_self]; rfl
    have e2 : (D ++ [l]).getD i [] = l := by unfold List.getD; rw [List.getElem?_append_right (by omega), hn, Nat.sub_self]; rfl
    rw [e1, e2]; exact keep hy
theorem wpList_append_rec {w : World} {ops : Array Oper} {rest : List Oper} {o : Oper} {a : Act} {Q : Exit → Act → World → Prop} (hgd : o.guard = none) (s x : Operand)
    (ho : o.op = .call { callee := .builtin .append, args := #[s, x], argTypes := #[23, 23] }) (base : Nat)
    (v : Value) (n : Nat) (D : List (List Nat)) (hs : a.eval s = v) (hown : NOut w base v n D)
    (g : Nat) (y : Value) (l : List Nat) (hy : NumRow base l y w) (hx : a.eval x = .slice (some ⟨g, 0, none⟩) 1 1) (hblk : w.heap[g]? = some (.cells #[y] 47 (0, 0)))
    (hbytes : (n + 1) * 24 ≤ 140737488355328) (hbase : base ≤ w.heap.size)
    (h : ∀ A' cp w', NOut w' base (.slice A' (n + 1) cp) (n + 1) (D ++ [l]) → Below base w w' → wpList Try.prog ops Q rest (a.put o.dst (.slice A' (n + 1) cp)) w') : wpList Try.prog ops Q (o :: rest) a w := by
  obtain ⟨hn, vs, h2, h3⟩ := hown
  obtain ⟨i, hi, hz0, hz1, hz2⟩ := info_parts info_nus
  refine wpList_append_lies w hgd s x 23 ho base 47 i (.slice none 0 0) 1 24 Try.underlying23 hi hz0 hz1 hz2 rfl (by decide) v n vs hs h2 ⟨g, 0, none⟩ 1 1 [y] hx rfl (World.news_of_block hblk) ?_ (by decide) (by unfold maxLen; omega) hbytes hbase _ rfl ?_
  · intro u hu
    rw [List.mem_singleton.1 hu]
    rcases (show w.ownsRow base 41 1 y l.length (nv l) from hy).2 with ⟨rfl, -⟩ | ⟨_, _, _, rfl, -⟩ <;> rfl
  · intro g' cap w' q1 q2 q3 q4
    exact h _ cap w' (NOut.snoc hn h2 h3 hy q1 q2) ((Below.refl base w).grown q2 hbase (fun k hk => (h2.lt k hk).1))

/-- each of them: a step, and the end -/
theorem jMap_round {f : List (List Lv) → Option (List Nat)} {parts : List (List (List Lv))} {i : Nat} {acc : List (List Nat)} {J : Option (List (List Nat))} (hi : i < parts.length) (h : J = (Sh.jMap f (parts.drop i)).bind fun b => some (acc ++ b)) :
    (f (parts.getD i []) = none → J = none) ∧ ∀ a, f (parts.getD i []) = some a → J = (Sh.jMap f (parts.drop (i + 1))).bind fun b => some ((acc ++ [a]) ++ b) := by
  have hd : Sh.jMap f (parts.drop i) = (f (parts.getD i [])).bind fun a => (Sh.jMap f (parts.drop (i + 1))).bind fun b => some (a :: b) := by
    rw [List.drop_eq_getElem_cons hi, show parts.getD i [] = parts[i] by simp [List.getD, List.getElem?_eq_getElem hi]]; rfl
  rw [hd] at h
  refine ⟨fun e => by rw [h, e]; rfl, fun a e => ?_⟩
  rw [h, e]
  simp only [Option.bind_some]
  cases Sh.jMap f (parts.drop (i + 1)) with
  | none => rfl
  | some y => simp only [Option.bind_some, List.append_assoc, List.singleton_append]
theorem jMap_end {f : List (List Lv) → Option (List Nat)} {parts : List (List (List Lv))} {acc : List (List Nat)} {J : Option (List (List Nat))} (h : J = (Sh.jMap f (parts.drop parts.length)).bind fun b => some (acc ++ b)) : J = some acc := by
  rw [h, List.drop_length]
  show some (acc ++ []) = _
  rw [List.append_nil]
/-- records, or why not -/
def AofPost (w : World) (R : Except Nat (List (List Nat))) (e : Ending) (w' : World) : Prop :=
  Below w.heap.size w w' ∧ match R with
  | .error n => e = .returned (.tuple #[.slice none 0 0, .int .i64 (n : Int)])
  | .ok outs => ∃ A cp n, e = .returned (.tuple #[.slice A n cp, .int .i64 0]) ∧ n = outs.length ∧ NOut w' w.heap.size (.slice A n cp) n outs ∧ ∀ r ∈ outs, ∀ x ∈ r, x < 18446744073709551616
end Go.Proofs.Ytjfkoledbegpfaa
/- The walk of hypostyleref.AssembledOf. -/
namespace Go.Proofs.Ytjfkoledbegpfaa
open Go.RowKit
open Sh (Lv lsum cutAll jAll jOne jIn jal)
set_option linter.unusedVariables false

noncomputable def asmEnd (sr : List (List Nat) → Except Nat (List (List Lv))) (cols : List (List Lv)) (outs : List (List Nat)) : Except Nat (List (List Nat)) := open Classical in if sr outs = .ok cols then .ok outs else .error 1
noncomputable def asmAll (sr : List (List Nat) → Except Nat (List (List Lv))) (cols : List (List Lv)) : Option (List (List Nat)) → Except Nat (List (List Nat))
  | none => .error 1
  | some outs => asmEnd sr cols outs
theorem asmEnd_ok {sr : List (List Nat) → Except Nat (List (List Lv))} {cols : List (List Lv)} {outs : List (List Nat)} (h : sr outs = .ok cols) : asmEnd sr cols outs = .ok outs := by unfold asmEnd; rw [if_pos h]
theorem asmEnd_no {sr : List (List Nat) → Except Nat (List (List Lv))} {cols : List (List Lv)} {outs : List (List Nat)} (h : sr outs ≠ .ok cols) : asmEnd sr cols outs = .error 1 := by unfold asmEnd; rw [if_neg h]

set_option maxHeartbeats 4000000 in
set_option maxRecDepth 100000 in
theorem assembledOf_any (a : Option Addr) (cap : Nat) (l : List Sh.Fd) (ca : Option Addr) (ccap : Nat) (cols : List (List Lv)) (w : World) (hcap : l.length ≤ cap) (hcm : cap ≤ maxLen) (hu : Fds w w.heap.size a l) (hcc : cols.length ≤ ccap) (hccm : ccap ≤ maxLen) (hls : lsum cols ≤ 1048576) (hrw : LRows w w.heap.size ca cols) :
    Calls Try.prog 19 #[.slice a l.length cap, .slice ca cols.length ccap] w (AofPost w (Sh.asmOf l cols)) := by
  obtain ⟨R, hR⟩ : ∃ R, R = Sh.asmOf l cols := ⟨_, rfl⟩
  rw [← hR]
  have HR := Lib.hid hR
  have HFC := Lib.hid (formCheck_any a cap l w (by omega) hu)
  have hcm2 := hcm
  unfold maxLen at hcm2
  have hccm2 := hccm
  unfold maxLen at hccm2
  obtain ⟨nc, hnc⟩ : ∃ n, n = cols.length := ⟨_, rfl⟩
  rw [← hnc] at hcc ⊢
  have HNC := Lib.hid hnc
  clear hR
  by_cases h0 : Sh.check l ≠ 0
  · have HRE := Lib.hid (show R = .error (Sh.check l) by rw [HR.out]; unfold Sh.asmOf; rw [if_pos h0])
    generalize Sh.check l = ck at *
    have hckI : ((ck : Int) != 0) = true := by rw [bne_iff_ne]; omega
    generalize l.length = ll at *
    clear hu hrw hnc
    go_enter Try.func19, Try.ntmps19
    go_wp2_with fail
    refine (HFC.out).mono ?_
    rintro e w1 ⟨rfl, hb1⟩
    have HB1 := Lib.hid hb1
    clear hb1
    go_wp2_with fail
    refine bodyPost_ret (v := .tuple #[.slice none 0 0, .int .i64 (ck : Int)]) (by simp [results, Try.results19, go_sem]) rfl ⟨HB1.out, ?_⟩
    rw [HRE.out]
  have h0 : Sh.check l = 0 := Classical.not_not.1 h0
  rw [h0] at HFC
  obtain ⟨k, hk, hf, ho, h12⟩ := Sh.check_form h0
  have hlen : l.length = 1 + Sh.size k := by rw [← hf, Sh.flat_length]; rfl
  obtain ⟨b, off, rfl, -⟩ := hu (by intro e; rw [e] at hlen; simp at hlen; omega)
  have hfs := form_small h0
  rw [Sh.formK_is hf] at hfs
  have HU := Lib.hid (fun W (hb : Below w.heap.size w W) => show Fds W W.heap.size (some ⟨b, off, none⟩) (Sh.flat (.cons 0 k .nil)) by rw [hf]; exact (hu.below hb).mono hb.size)
  have HRW := Lib.hid (fun W (hb : Below w.heap.size w W) => hrw.next hb)
  obtain ⟨L, hL⟩ : ∃ L, L = lv1 k := ⟨_, rfl⟩
  have HL := Lib.hid hL
  have HLO := Lib.hid (fun W (hb : Below w.heap.size w W) => show Calls Try.prog 28 #[.slice (some ⟨b, off, none⟩) l.length cap] W (fun e w' => e = .returned (.int .i64 (L : Nat)) ∧ W = w') by
    have := leavesOf_any (some ⟨b, off, none⟩) cap l W w.heap.size (by omega) (hu.below hb)
    rwa [show lvs l = L by rw [hL, ← hf, lvs_one]] at this)
  have HIN := Lib.hid (fun W (hb : Below w.heap.size w W) aa c (x : List (List Lv)) (a1 : x.length = L) (a2 : L ≤ c) (a3 : c ≤ maxLen) (a4 : lsum x ≤ 1048576) (a5 : LRows W W.heap.size aa x) => show Calls Try.prog 37 #[.slice (some ⟨b, off, none⟩) l.length cap, .slice aa L c, .int .i64 0, .int .i64 0] W (JPost W (jIn k 0 0 x)) by
    rw [hL] at a1 a2 ⊢
    have := jinner_any k 0 0 0 b off cap W.heap.size aa c x W (HU.out W hb) (Nat.le_refl _) (by omega) hcm (by omega) (by omega) ho a1 a2 a3 a4 a5
    rw [← hlen] at this
    exact this)
  have HJM := Lib.hid (fun (x : List (List Lv)) y (a1 : x.length = L) (a2 : ∀ c ∈ x, ∀ z ∈ c, lvOk z) (a4 : lsum x ≤ 1048576) (h : jIn k 0 0 x = some y) => Sh.jIn_mem 18446744073709551616 (by omega) k 0 0 x y (by rw [a1, hL]) (fun c hc z hz => (a2 c hc z hz).2.2) (by omega) h)
  have HSO := Lib.hid (fun W (hb : Below w.heap.size w W) ra rcap (rs : List (List Nat)) (a1 : rs.length ≤ rcap) (a2 : rcap ≤ maxLen) (a3 : NRows W W.heap.size ra rs) => shredOf_any (some ⟨b, off, none⟩) cap l ra rcap rs W hcap hcm (by rw [← hf]; exact HU.out W hb) a1 a2 a3)
  have HOK := Lib.hid (fun rs x (h1 : ∀ r ∈ rs, ∀ n ∈ r, n < 18446744073709551616) (h : Sh.shR l rs = .ok x) => shR_lvOk h1 h)
  have HER := Lib.hid (fun rs n (h : Sh.shR l rs = .error n) => shR_err h)
  have HRA := Lib.hid (show R = if nc ≠ L then .error 1 else match cutAll 0 cols with
    | none => .error 1
    | some parts => asmAll (Sh.shR l) cols (Sh.jMap (jIn k 0 0) parts) by
    rw [HR.out, HNC.out, hL]
    unfold Sh.asmOf
    rw [if_neg (by rw [h0]; simp), Sh.formK_is hf]
    rfl)
  have HLS := Lib.hid hls
  have HL12 := Lib.hid hfs.2
  have HCC := Lib.hid hccm
  have hL9 : L ≤ 1000 := by omega
  generalize jIn k 0 0 = f at *
  generalize Sh.shR l = sr at *
  generalize l.length = ll at *
  clear hu hrw hnc hlen hfs h0 ho h12 hL hk hls HR
  by_cases hne : nc ≠ L
  · have HRE := Lib.hid (HRA.out.trans (if_pos hne))
    have hneI : ((nc : Int) != (L : Int)) = true := by rw [bne_iff_ne]; omega
    clear hne
    go_enter Try.func19, Try.ntmps19
    go_wp2_with fail
    refine (HFC.out).mono ?_
    rintro e w1 ⟨rfl, hb1⟩
    have HB1 := Lib.hid hb1
    clear hb1
    go_wp2_with fail
    refine (HLO.out w1 HB1.out).mono ?_
    rintro e w2 ⟨rfl, rfl⟩
    go_wp2_with fail
    refine bodyPost_ret (v := .tuple #[.slice none 0 0, .int .i64 1]) (by simp [results, Try.results19, go_sem]) rfl ⟨HB1.out, ?_⟩
    rw [HRE.out]; rfl
  have hne2 : nc = L := Classical.not_not.1 hne
  subst hne2
  have HRE := Lib.hid (HRA.out.trans (if_neg hne))
  have HCA := Lib.hid (fun W (hb : Below w.heap.size w W) => show Calls Try.prog 36 #[.slice ca nc ccap, .int .i64 0] W (CAPost W (cutAll 0 cols)) by
    have h := cutAll_any ca ccap cols 0 W (by rw [← HNC.out]; omega) (fun i => Nat.le_trans (lsum_at cols i) HLS.out) (HRW.out W hb)
    rwa [← HNC.out] at h)
  have HCM := Lib.hid (fun G (h : cutAll 0 cols = some G) => Sh.cutAll_mem h (HRW.out w (Below.refl _ _)).oks)
  have HCS := Lib.hid (fun G (h : cutAll 0 cols = some G) => Sh.cutAll_sum h)
  have HCN := Lib.hid (fun G (h : cutAll 0 cols = some G) => Sh.parts_cnt h)
  generalize cutAll 0 cols = RC at *
  clear hne HRA
  go_enter Try.func19, Try.ntmps19
  go_wp2_with fail
  refine (HFC.out).mono ?_
  rintro e w1 ⟨rfl, hb1⟩
  have HB1 := Lib.hid hb1
  clear hb1 HFC
  go_wp2_with fail
  refine (HLO.out w1 HB1.out).mono ?_
  rintro e w2 ⟨rfl, rfl⟩
  go_wp2_with fail
  refine (HCA.out w1 HB1.out).mono ?_
  rintro e w5 ⟨hb5, hm5⟩
  have HB5 := Lib.hid (below_then HB1.out hb5)
  cases RC with
  | none =>
    obtain rfl := hm5
    have HRN := Lib.hid (show R = .error 1 from HRE.out)
    clear hb5
    go_wp2_with fail
    refine bodyPost_ret (v := .tuple #[.slice none 0 0, .int .i64 1]) (by simp [results, Try.results19, go_sem]) rfl ⟨HB5.out, ?_⟩
    rw [HRN.out]; rfl
  | some parts =>
    obtain ⟨A2, cp2, m, rfl, hm, hca⟩ := hm5
    have HPR := Lib.hid (hca.prows (HCM.out parts rfl))
    have HPO := Lib.hid (HCM.out parts rfl)
    have HLN := Lib.hid (show ∀ x ∈ parts, x.length = nc from fun x hx => ((HCS.out parts rfl).2 x hx).trans HNC.out.symm)
    have HSM := Lib.hid (HCS.out parts rfl).1
    have HM := Lib.hid hm
    have hm9 : m ≤ 1048576 := by rw [hm]; exact Nat.le_trans (HCN.out parts rfl) HLS.out
    obtain ⟨J, hJ⟩ : ∃ J, J = Sh.jMap f parts := ⟨_, rfl⟩
    have HJ0 := Lib.hid (show J = (Sh.jMap f (parts.drop 0)).bind fun b => some ([] ++ b) by
      rw [hJ, List.drop_zero]
      cases Sh.jMap f parts with
      | none => rfl
      | some y => rfl)
    have HRJ := Lib.hid (show R = asmAll sr cols J by rw [hJ]; exact HRE.out)
    clear hm hca hb5 HRE HCM HCS HCN HCA HLO hJ
    go_wp2_with fail
    go_loopw [9, 10, 11, 12] (fun out i _ _ wr => ∃ (j : Nat) (A : Option Addr) (cp : Nat) (acc : List (List Nat)), j ≤ m ∧ i = .int .i64 j ∧ out = .slice A j cp ∧ Below w5.heap.size w5 wr ∧ Hid (NOut wr w5.heap.size (.slice A j cp) j acc) ∧ Hid (∀ r ∈ acc, ∀ x ∈ r, x < 18446744073709551616) ∧ Hid (J = (Sh.jMap f (parts.drop j)).bind fun b => some (acc ++ b))) (fun _ i _ _ _ => m - (intOf i).toNat)
    case atStart => exact ⟨0, none, 0, [], Nat.zero_le _, rfl, rfl, Below.refl _ _, Lib.hid (NOut.nil _ _), Lib.hid (fun r hr => by cases hr), HJ0⟩
    case round =>
      obtain ⟨j, A, cp, acc, hj, rfl, rfl, hbw, HNO, HAL, HJJ⟩ := hrel
      rename World => wr
      by_cases hlt : j < m
      · have hjI : (j : Int) < (m : Int) := by omega
        have hip : j < parts.length := by rw [← HM.out]; exact hlt
        obtain ⟨pb, aa, c, hPA, hpb, kp, hlr, hac, hcm9⟩ := (HPR.out.next hbw) j hip
        have hmem : parts.getD j [] ∈ parts := by rw [show parts.getD j [] = parts[j] by simp [List.getD, List.getElem?_eq_getElem hip]]; exact List.getElem_mem hip
        have hxl := HLN.out _ hmem
        rw [hxl] at kp hac
        have hxs : lsum (parts.getD j []) ≤ lsum cols := by rw [← HSM.out]; exact Sh.mem_le_sum _ _ (List.mem_map_of_mem hmem)
        have HBW := Lib.hid (HB5.out.trans (hbw.mono HB5.out.size))
        have HC := Lib.hid (HIN.out wr HBW.out aa c (parts.getD j []) hxl hac hcm9 (by have := HLS.out; omega) hlr)
        have HRR := Lib.hid (jMap_round hip HJJ.out)
        have HNL := Lib.hid (fun y h => HJM.out (parts.getD j []) y hxl (HPO.out _ hmem) (by have := HLS.out; omega) h)
        have hcm8 := hcm9
        unfold maxLen at hcm8
        subst hPA
        have HBL := Lib.hid hbw
        generalize f (parts.getD j []) = X at *
        clear hip hmem hxl hxs hlr hcm9 hbw
        go_wp2_with fail
        refine (HC.out).mono ?_
        rintro e w3 ⟨hb3, hm3⟩
        cases X with
        | none =>
          obtain rfl := hm3
          have HRN := Lib.hid (show R = .error 1 by rw [HRJ.out, HRR.out.1 rfl]; rfl)
          have HB3 := Lib.hid (below_then HBW.out hb3)
          clear hb3
          go_wp2_with fail
          refine bodyPost_ret (v := .tuple #[.slice none 0 0, .int .i64 1]) (by simp [results, Try.results19, go_sem]) rfl ⟨HB3.out, ?_⟩
          rw [HRN.out]; rfl
        | some y =>
          obtain ⟨A3, n3, cp3, rfl, hn3, hr3⟩ := hm3
          have HJ2 := Lib.hid (HRR.out.2 y rfl)
          have HAL2 := Lib.hid (show ∀ r ∈ acc ++ [y], ∀ x ∈ r, x < 18446744073709551616 from fun r hr => by
            rcases List.mem_append.1 hr with h | h
            · exact HAL.out r h
            · rw [List.mem_singleton.1 h]; exact HNL.out y rfl)
          have hal := (Below.refl w3.heap.size w3).alloc (Nat.le_refl _) (.cells #[.slice A3 n3 cp3] 47)
          have hown := (HNO.out.next hb3).next hal
          have hy : NumRow w5.heap.size y (.slice A3 n3 cp3) (w3.alloc (.cells #[.slice A3 n3 cp3] 47)) := own_down (row_below hr3 hal) HBL.out.size
          have HB3 := Lib.hid ((HBL.out.trans (hb3.mono HBL.out.size)).trans (hal.mono (Nat.le_trans HBL.out.size hb3.size)))
          have hsz := HB3.out.size
          have hbytes : (j + 1) * 24 ≤ 140737488355328 := by omega
          clear hn3 hr3 hb3 hal HNL HRR
          go_wp2_with (at_builtin; refine wpList_append_rec (by rfl) (.tmp 48) (.tmp 50) (by rfl) w5.heap.size _ j acc (by rfl) hown w3.heap.size _ y hy (by rfl) (heap_alloc_new _ _) hbytes hsz ?_; intro A9 cp9 w9 hown9 hb9)
          have HB9 := Lib.hid (HB3.out.trans hb9)
          have HO9 := Lib.hid hown9
          clear hown hown9 hb9 hy hsz hbytes
          go_wp2_with fail
          exact ⟨⟨j + 1, A9, cp9, acc ++ [y], by omega, by go_num, rfl, HB9.out, HO9, HAL2, HJ2⟩, by simp [intOf]; omega⟩
      · obtain rfl : m = j := by omega
        have hjI : ¬ (m : Int) < (m : Int) := by omega
        have hJE : J = (Sh.jMap f (parts.drop parts.length)).bind fun b => some (acc ++ b) := by rw [← HM.out]; exact HJJ.out
        have HRF := Lib.hid (show R = asmEnd sr cols acc by rw [HRJ.out, jMap_end hJE]; rfl)
        have HBW := Lib.hid (HB5.out.trans (hbw.mono HB5.out.size))
        obtain ⟨hr1, hr2, hr3⟩ := HNO.out.room
        have HC := Lib.hid (HSO.out wr HBW.out A cp acc (by rw [HNO.out.1]; exact hr1) hr2 (HNO.out.rows HAL.out))
        rw [HNO.out.1] at HC
        have HNO2 := Lib.hid (HNO.out.down HB5.out.size)
        have HOK2 := Lib.hid (fun x h => HOK.out acc x HAL.out h)
        have HER2 := Lib.hid (fun n h => HER.out acc n h)
        have HE1 := Lib.hid (fun (h : sr acc = .ok cols) => HRF.out.trans (asmEnd_ok h))
        have HE2 := Lib.hid (fun (h : sr acc ≠ .ok cols) => HRF.out.trans (asmEnd_no h))
        clear HRF
        generalize sr acc = X at *
        clear hbw hr1 hr2 hr3 hJE HJJ HSO HOK HER
        go_wp2_with fail
        refine (HC.out).mono ?_
        rintro e w6 ⟨hb6, hm6⟩
        cases X with
        | error n =>
          obtain rfl := hm6
          have hn0 := HER2.out n rfl
          have hnI : ((n : Int) != 0) = true := by rw [bne_iff_ne]; omega
          have HRN := Lib.hid (show R = .error 1 from HE2.out (by intro e; cases e))
          have HB6 := Lib.hid (below_then HBW.out hb6)
          clear hb6
          go_wp2_with fail
          refine bodyPost_ret (v := .tuple #[.slice none 0 0, .int .i64 1]) (by simp [results, Try.results19, go_sem]) rfl ⟨HB6.out, ?_⟩
          rw [HRN.out]; rfl
        | ok x =>
          obtain ⟨A6, cp6, rfl, hc6⟩ := hm6
          have HB6 := Lib.hid (below_then HBW.out hb6)
          have HSA := Lib.hid (csame_any A6 ca cp6 ccap x cols w6 (hc6.rows (HOK2.out x rfl)) (HRW.out w6 HB6.out) (by obtain ⟨A7, cp7, e7, h7, h8⟩ := hc6.room; omega))
          rw [← HNC.out] at HSA
          have HNO6 := Lib.hid (HNO2.out.next hb6)
          generalize x.length = xl at *
          by_cases hx : x = cols
          · have HRY := Lib.hid (HE1.out (by rw [hx]))
            rw [decide_eq_true hx] at HSA
            clear hb6 hx hc6
            go_wp2_with fail
            refine (HSA.out).mono ?_
            rintro e w7 ⟨rfl, hb7⟩
            have HB7 := Lib.hid (below_then HB6.out hb7)
            have HNO7 := Lib.hid (HNO6.out.next hb7)
            clear hb7
            go_wp2_with fail
            refine bodyPost_ret (v := .tuple #[.slice A m cp, .int .i64 0]) (by simp [results, Try.results19, go_sem]) rfl ⟨HB7.out, ?_⟩
            rw [HRY.out]
            exact ⟨A, cp, m, rfl, HNO7.out.1.symm, HNO7.out, HAL.out⟩
          · have HRY := Lib.hid (HE2.out (by intro e; injection e with e; exact hx e))
            rw [decide_eq_false hx] at HSA
            clear hb6 hx hc6
            go_wp2_with fail
            refine (HSA.out).mono ?_
            rintro e w7 ⟨rfl, hb7⟩
            have HB7 := Lib.hid (below_then HB6.out hb7)
            have HNO7 := Lib.hid (HNO6.out.next hb7)
            clear hb7
            go_wp2_with fail
            refine bodyPost_ret (v := .tuple #[.slice none 0 0, .int .i64 1]) (by simp [results, Try.results19, go_sem]) rfl ⟨HB7.out, ?_⟩
            rw [HRY.out]; rfl
end Go.Proofs.Ytjfkoledbegpfaa
