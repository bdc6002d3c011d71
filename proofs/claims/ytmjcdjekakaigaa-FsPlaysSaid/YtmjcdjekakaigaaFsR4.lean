/- The walks of the reference's without, withEntry, fewer. -/
import Derived.Test.YtmjcdjekakaigaaFsR3
import Derived.Test.YtmjcdjekakaigaaFsP3
namespace Go.Proofs.Ytmjcdjekakaigaa.Fs
open Go.RowKit
set_option linter.unusedVariables false

def ERowPost (l : List En) (w : World) (e : Ending) (w' : World) : Prop := ∃ v, e = .returned v ∧ ERow w.heap.size l v w' ∧ Below w.heap.size w w'
theorem filt_step {p : En → Bool} (l : List En) (k : Nat) (h : k < l.length) : (l.take (k + 1)).filter p = (l.take k).filter p ++ (if p (l.getD k nulE) = true then [l.getD k nulE] else []) := by
  rw [take_snoc l nulE k h, List.filter_append]
  by_cases hp : p (l.getD k nulE) = true
  · rw [if_pos hp, List.filter_cons_of_pos hp]; rfl
  · rw [if_neg hp, List.filter_cons_of_neg hp]; rfl
theorem filt_len {p : En → Bool} (l : List En) (k : Nat) : ((l.take k).filter p).length ≤ l.length := by
  have := List.length_filter_le p (l.take k)
  rw [List.length_take] at this
  omega
set_option maxHeartbeats 2000000 in
set_option maxRecDepth 100000 in
theorem rWithout_any (a : Option Addr) (c : Nat) (l : List En) (n : S) (w : World) (hl : l.length ≤ 1048576) (hu : Ens w w.heap.size a l) :
    Calls Try.prog 31 #[.slice a l.length c, .string (str n)] w (ERowPost (less l n) w) := by
  have HU := Lib.hid hu
  have HST := Lib.hid (fun k hk => filt_step (p := fun e => decide (e.name ≠ n)) l k hk)
  have HLN := Lib.hid (fun k => filt_len (p := fun e => decide (e.name ≠ n)) l k)
  have HE := Lib.hid (show (l.take l.length).filter (fun e => decide (e.name ≠ n)) = less l n by rw [List.take_length]; rfl)
  have HQ := Lib.hid (fun (u : S) => tl_eq u n)
  generalize less l n = R at *
  generalize str n = Y at *
  obtain ⟨F, hF⟩ : ∃ F : Nat → List En, F = fun k => (l.take k).filter (fun e => decide (e.name ≠ n)) := ⟨_, rfl⟩
  have HSF := Lib.hid (fun k hk => show F (k + 1) = F k ++ (if decide ((l.getD k nulE).name ≠ n) = true then [l.getD k nulE] else []) by rw [hF]; exact HST.out k hk)
  have HFL := Lib.hid (fun k => show (F k).length ≤ l.length by rw [hF]; exact HLN.out k)
  have HFE := Lib.hid (show F l.length = R by rw [hF]; exact HE.out)
  have HF0 := Lib.hid (show F 0 = [] by rw [hF]; simp)
  clear hu hF HST HLN HE
  go_enter Try.func31, Try.ntmps31
  go_wp2_with fail
  go_loopw [5, 6] (fun v i wr => ∃ k : Nat, k ≤ l.length ∧ i = .int .i64 k ∧ Hid (ERow w.heap.size (F k) v wr) ∧ Below w.heap.size w wr) (fun _ i _ => l.length - (intOf i).toNat)
  case atStart => exact ⟨0, by omega, rfl, Lib.hid (by rw [HF0.out]; exact enil _ _), Below.refl _ _⟩
  case round =>
    obtain ⟨k, hk, rfl, HR, hbw⟩ := hrel
    by_cases hlt : k < l.length
    · obtain ⟨bb, off, rfl, hbb, hcc⟩ := HU.out (fun e => by rw [e] at hlt; simp at hlt)
      obtain ⟨k0, k1⟩ := hcc k hlt
      have c0 := (hbw.cell (p := ⟨bb, off + k * 2, none⟩) hbb).trans k0
      have c1 := (hbw.cell (p := ⟨bb, off + k * 2 + 1, none⟩) hbb).trans k1
      have hkI : (k : Int) < (l.length : Int) := by omega
      have hq := HQ.out (l.getD k nulE).name
      have hst := HSF.out k hlt
      have hfl := HFL.out k
      have HON := Lib.hid (fun W => ens_one W (l.getD k nulE))
      generalize hx : l.getD k nulE = x at *
      have hqn : ((str x.name).toList != Y.toList) = decide (x.name ≠ n) := by
        rw [bne, hq]; by_cases h : x.name = n <;> simp [h]
      generalize x.node = z at *
      generalize str x.name = X at *
      clear k0 k1 hcc hx
      by_cases ho : x.name = n
      · rw [decide_eq_true ho] at hq
        rw [decide_eq_false (fun h => h ho)] at hqn hst
        rw [if_neg (by simp), List.append_nil] at hst
        have HN := Lib.hid (show ERow w.heap.size (F (k + 1)) _ wr by rw [hst]; exact HR.out)
        clear hst ho
        go_wp2_with fail
        exact ⟨⟨k + 1, by omega, by go_num, HN, hbw⟩, by simp [intOf]; omega⟩
      · rw [decide_eq_false ho] at hq
        rw [decide_eq_true ho] at hqn hst
        rw [if_pos rfl] at hst
        have HS2 := Lib.hid hst
        have hal : Below w.heap.size w (wr.alloc (.cells #[.string X, .int .i64 z] 47)) := hbw.alloc hbw.size _
        have HRA := Lib.hid (show ERow w.heap.size (F k) _ (wr.alloc (.cells #[.string X, .int .i64 z] 47)) from World.ownsRow.alloc HR.out _)
        have hby : ((F k).length + 1) * 24 ≤ 140737488355328 := by omega
        have hbase := hal.size
        clear hst ho
        go_wp2_with (at_builtin; refine wpList_append_en rfl (.tmp 20) (.tmp 25) rfl w.heap.size _ (F k) rfl HRA.out (some ⟨wr.heap.size, 0, none⟩) 1 1 [x] rfl rfl (fun h => by cases h) (HON.out wr) hby hbase ?_)
        intro v6 w6 hr6 hb6 hg6
        have HN := Lib.hid (show ERow w.heap.size (F (k + 1)) v6 w6 by rw [HS2.out]; exact hr6)
        clear hr6 hg6
        go_wp2_with fail
        exact ⟨⟨k + 1, by omega, by go_num, HN, hal.trans hb6⟩, by simp [intOf]; omega⟩
    · obtain rfl : k = l.length := by omega
      have HN := Lib.hid (show ERow w.heap.size R _ wr by rw [← HFE.out]; exact HR.out)
      go_wp2_with fail
      go_ret
      exact ⟨_, rfl, HN.out, hbw⟩
set_option maxHeartbeats 2000000 in
set_option maxRecDepth 100000 in
theorem rFewer_any (p : At) (f : T) (k : Nat) (w : World) (h : Fss w w.heap.size p f) (hk : k ≤ 1048576) :
    Calls Try.prog 53 #[fsV p f, .int .i64 k] w (NumPost (fewer f.dir f.syn k) w) := by
  have hal : Below w.heap.size w (w.alloc (.cells #[.slice p.an f.nodes.length p.cn, .slice p.ad f.dir.length p.cd, .slice p.ay f.syn.length p.cy] 25)) := (Below.refl _ _).alloc (Nat.le_refl _) _
  have hT : Bk (w.alloc (.cells #[.slice p.an f.nodes.length p.cn, .slice p.ad f.dir.length p.cd, .slice p.ay f.syn.length p.cy] 25)) w.heap.size 25 #[.slice p.an f.nodes.length p.cn, .slice p.ad f.dir.length p.cd, .slice p.ay f.syn.length p.cy] := bk_new _ _ _
  have hF := h.next hal
  have hdm := Nat.le_trans h.dcap.1 h.dcap.2.1
  have hsm := Nat.le_trans h.scap.1 h.scap.2.1
  obtain ⟨an, cn, ad, cd, ay, cy⟩ := p
  unfold fsV
  simp only at *
  obtain ⟨b0, b1, b2⟩ := hT.three
  have HNA := Lib.hid (fun (i : Int) => rNamed_any ad ay cd cy f.dir f.syn i _ hdm hsm hF.dir hF.syn)
  have HY := Lib.hid (fun (j : Nat) (h : named f.dir f.syn (j : Int) = true) => fewer_yes h)
  have HN := Lib.hid (fun (j : Nat) (h : named f.dir f.syn (j : Int) = false) => fewer_no h)
  have HL := Lib.hid (fun (j : Nat) => fewer_le f.dir f.syn j)
  have H0 := Lib.hid (show fewer f.dir f.syn 0 = 0 from rfl)
  generalize hFW : fewer f.dir f.syn = FW at *
  clear h hT hF hFW
  go_enter Try.func53, Try.ntmps53
  go_wp2_with fail
  obtain ⟨W1, hW1⟩ : ∃ W1, W1 = w.alloc (.cells #[.slice an f.nodes.length cn, .slice ad f.dir.length cd, .slice ay f.syn.length cy] 25) := ⟨_, rfl⟩
  rw [← hW1] at hal HNA b0 b1 b2 ⊢
  clear hW1
  go_loopw [5, 6] (fun v i wr => ∃ j : Nat, j ≤ k ∧ i = .int .i64 j ∧ v = .int .i64 (FW j : Nat) ∧ wr = W1) (fun _ i _ => k - (intOf i).toNat)
  case atStart => exact ⟨0, by omega, rfl, by rw [H0.out]; rfl, rfl⟩
  case round =>
    obtain ⟨j, hj, rfl, rfl, hwr⟩ := hrel
    rw [hwr]
    clear hwr
    by_cases hlt : j < k
    · have HC := Lib.hid (HNA.out (j : Int))
      have hjI : (j : Int) < (k : Int) := by omega
      have hfl := HL.out j
      cases hnm : named f.dir f.syn (j : Int) with
      | true =>
        rw [hnm] at HC
        have HS := Lib.hid (HY.out j hnm)
        clear hnm
        go_wp2_with fail
        refine (HC.out).mono ?_
        rintro e w4 ⟨rfl, rfl⟩
        go_wp2_with fail
        exact ⟨⟨j + 1, by omega, by go_num, by rw [HS.out]; go_num, trivial⟩, by simp [intOf]; omega⟩
      | false =>
        rw [hnm] at HC
        have HS := Lib.hid (HN.out j hnm)
        clear hnm
        go_wp2_with fail
        refine (HC.out).mono ?_
        rintro e w4 ⟨rfl, rfl⟩
        go_wp2_with fail
        exact ⟨⟨j + 1, by omega, by go_num, by rw [HS.out], trivial⟩, by simp [intOf]; omega⟩
    · obtain rfl : j = k := by omega
      go_wp2_with fail
      go_ret
      exact ⟨rfl, hal⟩
end Go.Proofs.Ytmjcdjekakaigaa.Fs
