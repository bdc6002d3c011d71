/- The walk of hypostyleref.DeltaOf. -/
import Derived.Test.YtpjmpbpbfjemdaaDR2
import Derived.Test.YtpjmpbpbfjemdaaHR5
import Derived.Test.YtpjmpbpbfjemdaaDW5
namespace Go.Proofs.Ytpjmpbpbfjemdaa
open Go.RowKit
set_option linter.unusedVariables false

theorem AllPost.none {w w' : World} (er : Nat) (h : Below w.heap.size w w') : AllPost ([], er) w (.returned (.tuple #[.slice none 0 0, .int .i64 er])) w' :=
  ⟨Option.none, 0, rfl, Nums.nil _ _ _, h⟩
theorem sums_cons (n : Nat) (l : List Nat) (hn : n < 18446744073709551616) : D.sums (n :: l) = n :: D.runF D.fs n l := by
  unfold D.sums
  have e : (D.fs 0 n) = (n, n) := by unfold D.fs; rw [show (0 + n) % 18446744073709551616 = n by omega]
  simp only [D.runF, e]
theorem zags_take (zs : List Nat) (k : Nat) (h : k < zs.length) : D.zags (zs.take (k + 1)) = D.zags (zs.take k) ++ [D.zag (zs.getD k 0)] := by
  have e : zs.take (k + 1) = zs.take k ++ [zs.getD k 0] := by
    rw [List.take_succ_eq_append_getElem h]; simp [List.getD, List.getElem?_eq_getElem h]
  rw [e]; simp [D.zags]

set_option maxHeartbeats 2000000 in
set_option maxRecDepth 100000 in
theorem dof_in (s : ByteArray) (many : Nat) (w : World) (hs : s.size ≤ maxLen) (hm1 : 1 ≤ many) (hm : many ≤ 64) :
    Calls Try.prog 27 #[.string s, .int .i64 many] w (AllPost (dread2 (parseR s.data.toList many)) w) := by
  have hv := fun w => vof_all s w hs
  have hmax := hs
  unfold maxLen at hmax
  have gm1 : decide ((many : Int) < 0) = false := by simp
  have gm2 : decide ((64 : Int) < (many : Int)) = false := by simp; omega
  have gm3 : ((many : Int) == 0) = false := by rw [beq_eq_false_iff_ne]; omega
  unfold parseR
  by_cases he : (V.rd s.data.toList).2.2 = 0
  · rw [if_neg (by simp [he])]
    obtain ⟨n, k, hr⟩ : ∃ n k, V.rd s.data.toList = (n, k, 0) := ⟨_, _, by rw [← he]⟩
    obtain ⟨k1, k2, _, k4, k5, _⟩ := V.rd_ok _ _ _ hr
    rw [hr] at hv ⊢
    rw [len_data] at k2 ⊢
    have HV := Lib.hid hv
    clear hv hr he
    by_cases hl : s.size = k
    · rw [if_pos hl]
      have g1 : ((s.size : Int) == (k : Int)) = true := by rw [beq_iff_eq]; omega
      go_enter Try.func27, Try.ntmps27
      go_wp2_with fail
      refine (HV.out _).mono ?_
      rintro e1 w1 ⟨rfl, hb⟩
      go_wp2_with fail
      go_ret2
      exact AllPost.none 5 hb
    · rw [if_neg hl]
      have g1 : ((s.size : Int) == (k : Int)) = false := by rw [beq_eq_false_iff_ne]; omega
      have hks : k < s.size := by omega
      have hksI : (k : Int) < (s.size : Int) := by omega
      have hks2 : ((k + 1 : Nat) : Int) ≤ (s.size : Int) := by omega
      have hsub : ((many : Int) - 1) = ((many - 1 : Nat) : Int) := by omega
      have hbyte : s.data.toList.getD k 0 = s[k] := by simp [List.getD, ByteArray.getElem_eq_getElem_data, hks]
      simp only [hbyte]
      have hu8 := s[k].toNat_lt
      have hw64 : wrap64 (s[k].toNat : Int) = (s[k].toNat : Int) := by
        unfold wrap64; omega
      have hrd := fun W => hof_any (s.extract (k + 1) s.size) ((many - 1 : Nat) : Int) (s[k].toNat : Int) W (by simp; unfold maxLen; omega)
      rw [cut_data] at hrd
      have hrl := hreadR_lt (s.data.toList.drop (k + 1)) ((many - 1 : Nat) : Int) (s[k].toNat : Int)
      have hrn := hreadR_len (s.data.toList.drop (k + 1)) ((many - 1 : Nat) : Int) (s[k].toNat : Int)
      rw [Int.toNat_natCast] at hrn
      generalize hreadR (s.data.toList.drop (k + 1)) ((many - 1 : Nat) : Int) (s[k].toNat : Int) = r at *
      obtain ⟨zs, er⟩ := r
      simp only at hrl hrn
      have HRD := Lib.hid hrd
      have HWD := Lib.hid (fun W A c' h => rwidth_any A c' zs W W.heap.size (by unfold maxLen; omega) hrl h)
      clear hrd hbyte
      unfold parse2
      simp only
      by_cases hz : er = 0
      · subst hz
        rw [if_neg (by simp)]
        by_cases hwe : B.wd zs = s[k].toNat
        · rw [if_neg (by simp [hwe])]
          rw [hwe] at HWD
          have HZX := Lib.hid hrl
          have HRES := Lib.hid (show dread2 (n, zs, 0) = (n :: D.runF D.fs n (D.zags zs), 0) by unfold dread2; rw [if_neg (by simp), sums_cons n _ k4])
          have HTK := Lib.hid (fun k h => zags_take zs k h)
          have HSN := Lib.hid (fun l x => D.runF_snoc D.fs n l x)
          have HEL := Lib.hid (fun k => D.endF_lt D.fs (fun b x hb hx => (D.fs_lt b x hb hx).1) n k4 (D.zags (zs.take k)) (D.zags_lt (zs.take k) (fun x h => hrl x (List.mem_of_mem_take h))))
          have HLN := Lib.hid (fun k (h : k ≤ zs.length) => show (D.runF D.fs n (D.zags (zs.take k))).length = k by rw [D.runF_length]; simp [D.zags]; omega)
          clear hrl hwe
          go_enter Try.func27, Try.ntmps27
          go_wp2_with fail
          refine (HV.out _).mono ?_
          rintro e1 w1 ⟨rfl, hb⟩
          go_wp2_with fail
          refine (HRD.out _).mono ?_
          rintro e2 w2 ⟨A, c2, rfl, hn2, hb2⟩
          have N2 := Lib.hid hn2
          clear hn2
          go_wp2_with fail
          refine (HWD.out _ _ _ N2.out).mono ?_
          rintro e3 w3 ⟨rfl, rfl⟩
          have hlit := World.ownsRow_lit (base := w2.heap.size) (e := 23) (size := 1) w2 #[.int .u64 (n : Int)] 1 (Nat.le_refl _) (by decide) rfl
          have hrow0 : NumRow w2.heap.size [n] (.slice (some ⟨w2.heap.size, 0, none⟩) 1 1) (w2.alloc (.cells #[.int .u64 (n : Int)] 23)) := hlit
          have hb20 : Below w2.heap.size w2 (w2.alloc (.cells #[.int .u64 (n : Int)] 23)) := (Below.refl _ _).alloc (Nat.le_refl _) _
          clear hlit
          go_wp2_with fail
          go_loopw [6, 11, 12] (fun x v i wr => ∃ k : Nat, k ≤ zs.length ∧ i = .int .i64 k ∧ x = .int .u64 ((D.endF D.fs n (D.zags (zs.take k)) : Nat) : Int) ∧ NumRow w2.heap.size (n :: D.runF D.fs n (D.zags (zs.take k))) v wr ∧ Below w2.heap.size w2 wr) (fun _ _ i _ => zs.length - (intOf i).toNat)
          case atStart => exact ⟨0, by omega, rfl, rfl, hrow0, hb20⟩
          case round =>
            obtain ⟨j, hj, rfl, rfl, hrow, hbw⟩ := hrel
            by_cases hlt : j < zs.length
            · obtain ⟨b, off, rfl, hbl, hcc⟩ := N2.out (fun e => by rw [e] at hlt; simp at hlt)
              have cj := (hbw.cell (p := ⟨b, off + j, none⟩) hbl).trans (hcc j hlt)
              have hxj := HZX.out _ (getD_mem zs j hlt)
              have hel := HEL.out j
              have hln := HLN.out j hj
              have HT := Lib.hid (HTK.out j hlt)
              have HS := Lib.hid (HSN.out (D.zags (zs.take j)) (D.zag (zs.getD j 0)))
              generalize zs.getD j 0 = x at *
              have HZ := Lib.hid (fun W => rzag_any x W hxj)
              have hzb := D.zag_lt x hxj
              generalize D.zag x = z at *
              generalize D.zags (zs.take j) = zt at *
              generalize D.endF D.fs n zt = y at *
              have HS1 := Lib.hid (show D.runF D.fs n (zt ++ [z]) = D.runF D.fs n zt ++ [(y + z) % 18446744073709551616] from HS.out.1)
              have HS2 := Lib.hid (show D.endF D.fs n (zt ++ [z]) = (y + z) % 18446744073709551616 from HS.out.2)
              generalize D.runF D.fs n zt = acc at *
              have hwrap : IntKind.u64.wrap ((y : Int) + (z : Int)) = (((y + z) % 18446744073709551616 : Nat) : Int) := by rw [IntKind.wrap_u64]; omega
              generalize (y + z) % 18446744073709551616 = q at *
              have hlb : ((n :: acc).length + 1) * 8 ≤ 140737488355328 := by rw [List.length_cons]; omega
              have hown : wr.ownsRow w2.heap.size 23 1 u11 (n :: acc).length (nv (n :: acc)) := hrow
              have HOWN := Lib.hid hown
              have hb5 : w2.heap.size ≤ (wr.alloc (.cells #[.int .u64 (q : Int)] 23)).heap.size := by have := hbw.size; simp; omega
              clear hrow hown hln hcc HS
              go_wp2_with fail
              refine (HZ.out _).mono ?_
              rintro e w9 ⟨rfl, rfl⟩
              go_wp2_with (at_builtin; refine wpList_append_one rfl (.tmp 72) (.tmp 74) rfl w2.heap.size _ (n :: acc).length _ rfl (HOWN.out.alloc _) wr.heap.size q rfl (World.cell?_alloc_new _ _ _ _) hlb hb5 ?_)
              intro v' w5 hown5 hgrow5
              have hbw5 : Below w2.heap.size w2 w5 := (hbw.alloc hbw.size _).grown hgrow5 (by have := hbw.size; simp; omega) (fun k hk => (HOWN.out.lt k hk).1)
              go_wp2_with fail
              refine ⟨⟨j + 1, by omega, by go_num, by rw [HT.out, HS2.out], ?_, hbw5⟩, by simp [intOf]; omega⟩
              rw [HT.out, HS1.out, ← List.cons_append]; unfold NumRow; rw [List.length_append]; simpa [nv] using hown5
            · obtain rfl : j = zs.length := by omega
              rw [List.take_length] at hrow
              obtain ⟨a', c', rfl, hn⟩ := numRow_nums hrow
              have HN := Lib.hid hn
              clear hrow hn
              go_wp2_with fail
              go_ret2
              rw [HRES.out]
              exact ⟨a', c', rfl, HN.out, below_then (below_then hb hb2) hbw⟩
        · rw [if_pos hwe]
          have g2 : ((B.wd zs : Int) != (s[k].toNat : Int)) = true := by rw [bne_iff_ne]; omega
          clear hrl
          go_enter Try.func27, Try.ntmps27
          go_wp2_with fail
          refine (HV.out _).mono ?_
          rintro e1 w1 ⟨rfl, hb⟩
          go_wp2_with fail
          refine (HRD.out _).mono ?_
          rintro e2 w2 ⟨A, c2, rfl, hn2, hb2⟩
          go_wp2_with fail
          refine (HWD.out _ _ _ hn2).mono ?_
          rintro e3 w3 ⟨rfl, rfl⟩
          go_wp2_with fail
          go_ret2
          exact AllPost.none 1 (below_then hb hb2)
      · rw [if_pos hz]
        have g2 : ((er : Int) != 0) = true := by rw [bne_iff_ne]; omega
        have HRES := Lib.hid (show dread2 (0, [], er) = ([], er) by unfold dread2; rw [if_pos hz])
        clear hrl
        go_enter Try.func27, Try.ntmps27
        go_wp2_with fail
        refine (HV.out _).mono ?_
        rintro e1 w1 ⟨rfl, hb⟩
        go_wp2_with fail
        refine (HRD.out _).mono ?_
        rintro e2 w2 ⟨A, c2, rfl, hn2, hb2⟩
        go_wp2_with fail
        go_ret2
        rw [HRES.out]
        exact AllPost.none er (below_then hb hb2)
  · rw [if_pos he]
    generalize V.rd s.data.toList = r at *
    have g1 : ((r.2.2 : Int) != 0) = true := by rw [bne_iff_ne]; omega
    have HV := Lib.hid hv
    have HRES := Lib.hid (show dread2 (0, [], r.2.2) = ([], r.2.2) by unfold dread2; rw [if_pos he])
    clear hv
    go_enter Try.func27, Try.ntmps27
    go_wp2_with fail
    refine (HV.out _).mono ?_
    rintro e1 w1 ⟨rfl, hb⟩
    go_wp2_with fail
    go_ret2
    rw [HRES.out]
    exact AllPost.none _ hb

theorem dof_any (s : ByteArray) (many : Int) (w : World) (hs : s.size ≤ maxLen) :
    Calls Try.prog 27 #[.string s, .int .i64 many] w (AllPost (dreadR s.data.toList many) w) := by
  unfold dreadR
  by_cases h0 : many < 0
  · rw [if_pos h0]
    have g1 : decide (many < 0) = true := by simp; omega
    go_enter Try.func27, Try.ntmps27
    go_wp2_with fail
    go_ret2
    exact AllPost.none 3 (Below.refl _ _)
  rw [if_neg h0]
  obtain ⟨m, rfl⟩ : ∃ m : Nat, many = m := ⟨many.toNat, by omega⟩
  have g1 : decide ((m : Int) < 0) = false := by simp
  by_cases h1 : 64 < (m : Int)
  · rw [if_pos h1]
    have g2 : decide ((64 : Int) < (m : Int)) = true := by simp; omega
    go_enter Try.func27, Try.ntmps27
    go_wp2_with fail
    go_ret2
    exact AllPost.none 2 (Below.refl _ _)
  rw [if_neg h1]
  by_cases h2 : (m : Int) = 0
  · rw [if_pos h2]
    obtain rfl : m = 0 := by omega
    by_cases ht : s.size = 0
    · rw [if_pos (data_empty s ht)]
      have g5 : decide ((0 : Int) < (s.size : Int)) = false := decide_eq_false (by omega)
      go_enter Try.func27, Try.ntmps27
      go_wp2_with fail
      go_ret2
      exact AllPost.none 0 (Below.refl _ _)
    · rw [if_neg (data_ne s ht)]
      have g5 : decide ((0 : Int) < (s.size : Int)) = true := decide_eq_true (by omega)
      have g6 : 0 < s.size := by omega
      go_enter Try.func27, Try.ntmps27
      go_wp2_with fail
      go_ret2
      exact AllPost.none 1 (Below.refl _ _)
  rw [if_neg h2, Int.toNat_natCast]
  exact dof_in s m w hs (by omega) (by omega)
end Go.Proofs.Ytpjmpbpbfjemdaa
