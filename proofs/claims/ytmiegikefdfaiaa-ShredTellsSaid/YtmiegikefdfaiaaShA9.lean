/- The walk of shred.Assemble. -/
import Derived.Test.YtmiegikefdfaiaaShA8
namespace Go.Proofs.Ytmiegikefdfaiaa
open Go.RowKit
open Sh (Lv)
set_option linter.unusedVariables false

/-- columns' records -/
noncomputable def Sh.asmbl (l : List Sh.Fd) (cols : List (List Lv)) : Except Nat (List (List Nat)) :=
  if Sh.check l ≠ 0 then .error (Sh.check l) else if cols.length ≠ lv1 (Sh.formK l) then .error 1 else match Sh.asR (Sh.formK l) cols with
    | none => .error 1
    | some outs => .ok outs
/-- a slice of columns, read below block B -/
def LRows (w : World) (B : Nat) (a : Option Addr) (cols : List (List Lv)) : Prop :=
  ∃ news : List Value, news.length = cols.length ∧ (∀ i, i < cols.length → LvSl w B (news.getD i undef) (cols.getD i [])) ∧
    (cols ≠ [] → ∃ b off, a = some ⟨b, off, none⟩ ∧ b < B ∧ ∀ i, i < cols.length → w.cell? ⟨b, off + i, none⟩ = news[i]?)
theorem LvSl.mono {w : World} {B B' : Nat} {v : Value} {l : List Lv} (h : LvSl w B v l) (hB : B ≤ B') : LvSl w B' v l := by
  obtain ⟨a, cap, e, h1, h2⟩ := h
  exact ⟨a, cap, e, h1.mono hB, h2⟩
theorem LRows.below {w w' : World} {B : Nat} {a : Option Addr} {l : List (List Lv)} (h : LRows w B a l) (hb : Below B w w') : LRows w' B a l := by
  obtain ⟨news, h1, h2, h3⟩ := h
  refine ⟨news, h1, fun i hi => (h2 i hi).below hb, fun hne => ?_⟩
  obtain ⟨b, off, e, hlt, hc⟩ := h3 hne
  exact ⟨b, off, e, hlt, fun i hi => (hb.cell (p := ⟨b, off + i, none⟩) hlt).trans (hc i hi)⟩
def AsmblPost (w : World) (R : Except Nat (List (List Nat))) (e : Ending) (w' : World) : Prop :=
  Below w.heap.size w w' ∧ match R with
  | .error n => e = .returned (.tuple #[.slice none 0 0, .int .i64 (n : Int)])
  | .ok outs => ∃ ov rvs S C, e = .returned (.tuple #[ov, .int .i64 0]) ∧ Outs w' w.heap.size S C ov rvs outs

set_option maxHeartbeats 2000000 in
set_option maxRecDepth 100000 in
theorem assemble_any (a : Option Addr) (cap : Nat) (l : List Sh.Fd) (ca : Option Addr) (ccap : Nat) (cols : List (List Lv)) (w : World) (hcap : l.length ≤ cap) (hcm : cap ≤ maxLen) (hu : Fds w w.heap.size a l) (hcl : cols.length ≤ maxLen) (hr : LRows w w.heap.size ca cols) :
    Calls Try.prog 18 #[.slice a l.length cap, .slice ca cols.length ccap] w (AsmblPost w (Sh.asmbl l cols)) := by
  obtain ⟨R, hR⟩ : ∃ R, Sh.asmbl l cols = R := ⟨_, rfl⟩
  rw [hR]
  have HR := Lib.hid hR
  have HT0 := Lib.hid (tree_any a cap l w hcap hcm hu)
  have HRR := Lib.hid hr
  obtain ⟨m, hm⟩ : ∃ m, m = cols.length := ⟨_, rfl⟩
  rw [← hm] at hcl ⊢
  unfold maxLen at hcl
  have HM := Lib.hid hm
  clear hR hu hr hm
  go_enter Try.func18, Try.ntmps18
  go_wp2_with fail
  refine HT0.out.mono ?_
  rintro e w2 ⟨hb, ⟨h0, rfl⟩ | ⟨h0, k, kv, hk, hko, hfl, h12, rfl, hkv⟩⟩
  · have HB := Lib.hid hb
    have HRE := Lib.hid (show R = .error (Sh.check l) by rw [← HR.out]; unfold Sh.asmbl; rw [if_pos h0])
    obtain ⟨ck, hck⟩ : ∃ ck, ck = Sh.check l := ⟨_, rfl⟩
    unfold node0
    rw [← hck] at h0 HRE ⊢
    have hckI : ((ck : Int) != 0) = true := by rw [bne_iff_ne]; omega
    clear hck hb
    go_wp2_with fail
    obtain rfl := HRE.out
    exact bodyPost_ret (v := .tuple #[.slice none 0 0, .int .i64 (ck : Int)]) (by simp [results, Try.results18, go_sem]) rfl ⟨HB.out.alloc HB.out.size _, rfl⟩
  · obtain ⟨b', capk, M, hkv2⟩ : ∃ b' capk M, kv = .slice (some ⟨b', 0, none⟩) M capk := by
      rcases hkv with ⟨h1, -⟩ | ⟨-, b', capk, h1, -⟩
      · exact absurd h1 hk
      · exact ⟨_, _, _, h1⟩
    subst hkv2
    obtain ⟨T, hT⟩ : ∃ T, T = lv1 k := ⟨_, rfl⟩
    have hT12 : T ≤ 12 := by
      have e1 := Sh.leaves_le (.cons 0 k .nil)
      rw [← Sh.flat_length, hfl, leaves_cons] at e1
      omega
    have hT0 : 0 < T := by rw [hT]; exact lv1_pos k
    have HTk := Lib.hid hT
    have HKV := Lib.hid hkv
    have HB2 := Lib.hid hb
    have hs2 : w.heap.size ≤ w2.heap.size := hb.size
    have HC0 := Lib.hid h0
    have HFL := Lib.hid hfl
    simp only [nag, nx, dn, rn, Nat.zero_add, if_true]
    rw [← hT]
    have hKs : Sh.size k ≤ 500 := by
      have e1 : l.length = Sh.size k + 1 := by rw [← hfl, Sh.flat_length]; simp [Sh.size]; omega
      omega
    clear hT hb hkv hfl h0
    by_cases hmT : m = T
    · have hmI : ((m : Int) != (T : Int)) = false := by rw [hmT]; exact bne_self_eq_false _
      have HRE := Lib.hid (show R = match Sh.asR k cols with | none => .error 1 | some outs => .ok outs by
        rw [← HR.out]; unfold Sh.asmbl
        rw [if_neg (by rw [HC0.out]; simp), Sh.formK_is HFL.out, if_neg (by rw [← HM.out, ← HTk.out, hmT]; simp)])
      have hcne : cols ≠ [] := fun e => by have := HM.out; rw [e] at this; simp at this; omega
      obtain ⟨news, hn1, hn2, hn3⟩ := HRR.out
      obtain ⟨cb, co, rfl, hcb, hcc⟩ := hn3 hcne
      have hmf : ∀ (fn : Fn) (first cap : Array Value) (w : World), (Instr.makeFunc fn first cap).run Try.prog w = .ok (.func fn first cap) w := fun _ _ _ _ => rfl
      have hB3 : Below w2.heap.size w2 (w2.alloc (.cells #[.int .i64 0, .int .i64 0, .int .i64 0, .int .i64 0, .int .i64 (T : Nat), .slice (some ⟨b', 0, none⟩) M capk] 50)) := (Below.refl _ _).alloc (Nat.le_refl _) _
      have CT := cel_new w2 #[.int .i64 0, .int .i64 0, .int .i64 0, .int .i64 0, .int .i64 (T : Nat), .slice (some ⟨b', 0, none⟩) M capk] 50
      have S3 : (w2.alloc (.cells #[.int .i64 0, .int .i64 0, .int .i64 0, .int .i64 0, .int .i64 (T : Nat), .slice (some ⟨b', 0, none⟩) M capk] 50)).heap.size = w2.heap.size + 1 := by simp
      have HB3 := Lib.hid hB3
      have HCT := Lib.hid CT
      have HS3 := Lib.hid S3
      have HN2 := Lib.hid hn2
      have HN1 := Lib.hid hn1
      have HCC := Lib.hid hcc
      clear hB3 CT S3 hn1 hn2 hn3 hcc
      go_wp2_with fail
      have hB3 := HB3.out
      have CT := HCT.out
      have S3 := HS3.out
      generalize w2.alloc (.cells #[.int .i64 0, .int .i64 0, .int .i64 0, .int .i64 0, .int .i64 (T : Nat), .slice (some ⟨b', 0, none⟩) M capk] 50) = w3 at *
      have hmc : cols.length = T := by have := HM.out; omega
      have HMC := Lib.hid hmc
      have hB03 : Below w.heap.size w w3 := HB2.out.trans (hB3.mono hs2)
      refine (clone_any w3 cb co ccap T news hT0 hT12 (by rw [HN1.out, hmc]) (fun i hi => (hB03.cell (p := ⟨cb, co + i, none⟩) hcb).trans (HCC.out i (by omega))) (fun u hu => by
        obtain ⟨i, hi, rfl⟩ := List.mem_iff_getElem.1 hu
        obtain ⟨xa, xc, e, -⟩ := HN2.out i (by have := HN1.out; omega)
        have : news.getD i undef = news[i] := by simp [List.getD, List.getElem?_eq_getElem hi]
        rw [← this, e]; rfl) (by omega)).mono ?_
      rintro e w4 ⟨g, c, cur, rfl, hg, hcg, hNc, hcM, hcs, hct, hb4⟩
      have hgl := hcg.lt
      have hs4 := hb4.size
      clear hmc
      have HGG := Lib.hid hcg
      have HB4 := Lib.hid hb4
      have HCTT := Lib.hid (CT.next hb4)
      clear hcg hb4 CT hB3
      have hA1 : Below w4.heap.size w4 (w4.alloc (.cells #[.slice (some ⟨g, 0, none⟩) T c, .slice none 0 0] 66)) := (Below.refl _ _).alloc (Nat.le_refl _) _
      have CS := cel_new w4 #[.slice (some ⟨g, 0, none⟩) T c, .slice none 0 0] 66
      have hs5 : (w4.alloc (.cells #[.slice (some ⟨g, 0, none⟩) T c, .slice none 0 0] 66)).heap.size = w4.heap.size + 1 := by simp
      have hA2 : Below (w4.alloc (.cells #[.slice (some ⟨g, 0, none⟩) T c, .slice none 0 0] 66)).heap.size (w4.alloc (.cells #[.slice (some ⟨g, 0, none⟩) T c, .slice none 0 0] 66)) ((w4.alloc (.cells #[.slice (some ⟨g, 0, none⟩) T c, .slice none 0 0] 66)).alloc (.cells #[.slice none 0 0] 23)) := (Below.refl _ _).alloc (Nat.le_refl _) _
      have CQ := cel_new1 w4 (.cells #[.slice (some ⟨g, 0, none⟩) T c, .slice none 0 0] 66) #[.slice none 0 0] 23
      have HA := Lib.hid (And.intro hA1 (And.intro CS (And.intro hs5 (And.intro hA2 CQ))))
      clear hA1 CS hs5 hA2 CQ
      go_wp2_with fail
      obtain ⟨hA1, CS, hs5, hA2, CQ⟩ := HA.out
      clear HA
      have CS6 := CS.next hA2
      have h46 : Below w4.heap.size w4 ((w4.alloc (.cells #[.slice (some ⟨g, 0, none⟩) T c, .slice none 0 0] 66)).alloc (.cells #[.slice none 0 0] 23)) := hA1.trans (hA2.mono (by omega))
      have hs6 : ((w4.alloc (.cells #[.slice (some ⟨g, 0, none⟩) T c, .slice none 0 0] 66)).alloc (.cells #[.slice none 0 0] 23)).heap.size = w4.heap.size + 2 := by simp
      clear CS hA1 hA2 hs5
      generalize (w4.alloc (.cells #[.slice (some ⟨g, 0, none⟩) T c, .slice none 0 0] 66)).alloc (.cells #[.slice none 0 0] 23) = w6 at *
      have h36 : Below w3.heap.size w3 w6 := HB4.out.trans (h46.mono hs4)
      have h06 : Below w.heap.size w w6 := hB03.trans (h36.mono (by have := hB03.size; omega))
      have h26 : Below w2.heap.size w2 w6 := HB3.out.trans (h36.mono (by omega))
      have AH : Ahd w6 w3.heap.size w4.heap.size g T c cols cur.toList (.slice none 0 0) := by
        refine ⟨CS6, by rw [Array.toArray_toList]; exact HGG.out.next h46, by rw [Array.length_toList, hcs]; exact hNc, HMC.out, fun i hi => ?_, ⟨hs4, hg, by omega⟩, ⟨hT12, hNc⟩⟩
        have e1 : cur.toList.getD i undef = news.getD i undef := by
          rw [← hct]; simp [List.getD, hi]
        rw [e1]
        exact ((HN2.out i (by rw [HMC.out]; exact hi)).below h06).mono (by have := hB03.size; omega)
      have K6 : KidsOf w6 (fun i => i < w3.heap.size) k (.slice (some ⟨b', 0, none⟩) M capk) 0 0 0 := (HKV.out.wider (S' := fun i => i < w2.heap.size) (fun i h => h.2)).keep (fun i (hi : i < w2.heap.size) => h26.block i hi) |>.wider (fun i h => by omega)
      have TB6 : Cel w6 w2.heap.size (nx 0 0 0 0 k (.slice (some ⟨b', 0, none⟩) M capk)).toArray 50 := by
        have e1 : (nx 0 0 0 0 k (.slice (some ⟨b', 0, none⟩) M capk)).toArray = #[.int .i64 0, .int .i64 0, .int .i64 0, .int .i64 0, .int .i64 (T : Nat), .slice (some ⟨b', 0, none⟩) M capk] := by
          simp only [nx, dn, rn, Nat.zero_add, if_true]; rw [← HTk.out]; rfl
        rw [e1]; exact HCTT.out.next h46
      refine (tried_asm w6 w3.heap.size w4.heap.size g T c cols cur.toList (.slice none 0 0) AH hT0 k (.slice (some ⟨b', 0, none⟩) M capk) K6 hk hko.2.2.1 hKs HTk.out.symm w2.heap.size (w4.heap.size + 1) TB6 CQ ⟨by omega, by omega⟩).mono ?_
      rintro e w7 ⟨hkp, hm7⟩
      have HBF := Lib.hid (show Below w.heap.size w w7 from h06.trans (hkp.below (by have := h06.size; omega) (fun i hi h => by have := hB03.size; rcases h with h | h | h <;> omega)))
      obtain ⟨U, hU⟩ : ∃ U, Sh.asR k cols = U := ⟨_, rfl⟩
      have HRE2 := HRE.out
      rw [hU] at HRE2 hm7
      have hw06 : w.heap.size ≤ w6.heap.size := h06.size
      cases U with
      | none =>
        obtain ⟨rfl, hq⟩ := hm7
        have q0 : w7.cell? ⟨w4.heap.size + 1, 0, none⟩ = some (.slice none 0 0) := hq.c 0
        have HRE3 := Lib.hid HRE2
        clear HRE2 hU hq hkp CQ AH K6 TB6 CS6 h46 hs6 h36 h06 h26
        go_wp2_with fail
        obtain rfl := HRE3.out
        exact bodyPost_ret (v := .tuple #[.slice none 0 0, .int .i64 1]) (by simp [results, Try.results18, go_sem]) rfl ⟨HBF.out, rfl⟩
      | some outs =>
        obtain ⟨rfl, ov, rvs, hq, ho⟩ := hm7
        have q0 : w7.cell? ⟨w4.heap.size + 1, 0, none⟩ = some ov := hq.c 0
        have HRE3 := Lib.hid HRE2
        have HO := Lib.hid ho
        clear HRE2 hU hq hkp CQ AH K6 TB6 CS6 h46 hs6 h36 h06 h26 ho
        go_wp2_with fail
        obtain rfl := HRE3.out
        exact bodyPost_ret (v := .tuple #[ov, .int .i64 0]) (by simp [results, Try.results18, go_sem]) rfl ⟨HBF.out, ov, rvs, w4.heap.size, g, rfl, HO.out.mono hw06⟩
    · have hmI : ((m : Int) != (T : Int)) = true := by rw [bne_iff_ne]; omega
      have HRE := Lib.hid (show R = .error 1 by
        rw [← HR.out]; unfold Sh.asmbl
        rw [if_neg (by rw [HC0.out]; simp), Sh.formK_is HFL.out, if_pos (by rw [← HM.out, ← HTk.out]; exact hmT)])
      go_wp2_with fail
      obtain rfl := HRE.out
      exact bodyPost_ret (v := .tuple #[.slice none 0 0, .int .i64 1]) (by simp [results, Try.results18, go_sem]) rfl ⟨HB2.out.alloc HB2.out.size _, rfl⟩
end Go.Proofs.Ytmiegikefdfaiaa
