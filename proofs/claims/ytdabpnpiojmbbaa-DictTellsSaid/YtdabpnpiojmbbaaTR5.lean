/- The walk of hypostyleref.BookOf. -/
import Derived.Test.YtdabpnpiojmbbaaTR4
namespace Go.Proofs.Ytdabpnpiojmbbaa
open Go.RowKit
set_option linter.unusedVariables false

/-- one more than the highest place among the first -/
def moR (f : List UInt8 → Nat) (l : List (List UInt8)) (k : Nat) : Nat := (l.take k).foldl (fun m x => max m (f x + 1)) 0
theorem moR_succ (f : List UInt8 → Nat) (l : List (List UInt8)) (k : Nat) (hk : k < l.length) : moR f l (k + 1) = max (moR f l k) (f (l.getD k []) + 1) := by
  unfold moR; rw [ttake_succ l k hk, List.foldl_append]; rfl
theorem moR_end (l : List (List UInt8)) : moR (T.plc (T.bk l)) l l.length = (T.bk l).length := by
  have up : ∀ k, k ≤ l.length → moR (T.plc (T.bk l)) l k ≤ (T.bk l).length ∧ ∀ i, i < k → T.plc (T.bk l) (l.getD i []) + 1 ≤ moR (T.plc (T.bk l)) l k := by
    intro k
    induction k with
    | zero => intro _; exact ⟨by simp [moR], fun i hi => absurd hi (by omega)⟩
    | succ k ih =>
      intro h
      obtain ⟨h1, h2⟩ := ih (by omega)
      rw [moR_succ _ l k (by omega)]
      have h3 := (code_lt (tgetD_mem l k (by omega))).1
      refine ⟨by omega, fun i hi => ?_⟩
      by_cases e : i = k
      · subst e; omega
      · have := h2 i (by omega); omega
  obtain ⟨h1, h2⟩ := up l.length (Nat.le_refl _)
  rcases Nat.eq_zero_or_pos (T.bk l).length with h0 | h0
  · omega
  · have hlt : (T.bk l).length - 1 < (T.bk l).length := by omega
    have hm : (T.bk l)[(T.bk l).length - 1] ∈ l := (T.bk_mem l _).1 (List.getElem_mem hlt)
    obtain ⟨i, hi, e⟩ := List.mem_iff_getElem.1 hm
    have h3 := h2 i hi
    have e2 : l.getD i [] = (T.bk l)[(T.bk l).length - 1] := by rw [getD_get _ _ hi]; exact e
    rw [e2, T.plc_at (T.bk_up l) hlt] at h3
    omega

/-- none of the last ones has the place, if not yet got -/
def Miss (f : List UInt8 → Nat) (l : List (List UInt8)) (k q : Nat) (got : Bool) : Prop := got = false → ∀ i, q ≤ i → i < l.length → f (l.getD i []) ≠ k
theorem Miss.down {f : List UInt8 → Nat} {l : List (List UInt8)} {k r : Nat} {got : Bool} (h : Miss f l k (r + 1) got) (hne : f (l.getD r []) ≠ k) : Miss f l k r got := by
  intro hg i hi hl
  by_cases e : i = r
  · rw [e]; exact hne
  · exact h hg i (by omega) hl
theorem Miss.got {f : List UInt8 → Nat} {l : List (List UInt8)} {k r : Nat} : Miss f l k r true := fun h => by cases h
theorem miss_none {l : List (List UInt8)} {k : Nat} {got : Bool} (hk : k < (T.bk l).length) (h : Miss (T.plc (T.bk l)) l k 0 got) : got = true := by
  cases got with
  | true => rfl
  | false =>
    have hm : (T.bk l)[k] ∈ l := (T.bk_mem l _).1 (List.getElem_mem hk)
    obtain ⟨i, hi, e⟩ := List.mem_iff_getElem.1 hm
    refine absurd ?_ (h rfl i (by omega) hi)
    rw [getD_get _ _ hi, e, T.plc_at (T.bk_up l) hk]
def bkTo (b : List (List UInt8)) (k : Nat) (got : Bool) : List (List UInt8) := b.take (if got then k + 1 else k)
theorem bkTo_put {b : List (List UInt8)} {k : Nat} (hk : k < b.length) : bkTo b k true = bkTo b k false ++ [b.getD k []] := by
  unfold bkTo; simp only [if_true]; exact ttake_succ b k hk
def BookOfPost (l : List (List UInt8)) (w : World) (e : Ending) (w' : World) : Prop :=
  ∃ a c a2 c2, e = .returned (.tuple #[.slice a (T.bk l).length c, .slice a2 l.length c2]) ∧ Txts w' w'.heap.size a (T.bk l) ∧ Nums w' w'.heap.size a2 (l.map (T.plc (T.bk l))) ∧ Below w.heap.size w w'

set_option maxHeartbeats 4000000 in
set_option maxRecDepth 100000 in
theorem rbook_any (a : Option Addr) (c : Nat) (l : List (List UInt8)) (w : World) (hm : l.length * 16 ≤ 140737488351232) (hx : ∀ x ∈ l, x.length ≤ maxLen) (hu : Txts w w.heap.size a l) :
    Calls Try.prog 10 #[.slice a l.length c] w (BookOfPost l w) := by
  have HU := Lib.hid hu
  have HPL := Lib.hid (fun k (hk : k < l.length) W h => rplace_any a c l (l.getD k []) W (by omega) (hx _ (tgetD_mem l k hk)) hx h)
  have hbl := bk_length l
  have HMS := Lib.hid (fun k h => moR_succ (T.plc (T.bk l)) l k h)
  have HME := Lib.hid (moR_end l)
  have HCL := Lib.hid (fun k (hk : k < l.length) => (code_lt (tgetD_mem l k hk)).1)
  have HCG := Lib.hid (fun k (hk : k < l.length) => (code_lt (tgetD_mem l k hk)).2)
  have HMN := Lib.hid (fun k got (hk : k < (T.bk l).length) h => miss_none (l := l) (k := k) (got := got) hk h)
  have HM0 := Lib.hid (show moR (T.plc (T.bk l)) l 0 = 0 by simp [moR])
  unfold BookOfPost
  generalize hf : T.plc (T.bk l) = f at *
  generalize T.bk l = b at *
  have HST := Lib.hid (fun j (h : j < l.length) => show (l.take (j + 1)).map f = (l.take j).map f ++ [f (l.getD j [])] by
    rw [ttake_succ l j h, List.map_append]; rfl)
  have HLN := Lib.hid (fun j (h : j ≤ l.length) => show ((l.take j).map f).length = j by simp; omega)
  have HCA := Lib.hid (fun j (h : j < l.length) => code_at f l j h)
  have HML := Lib.hid (show (l.map f).length = l.length by simp)
  have HEND := Lib.hid (show (l.take l.length).map f = l.map f by rw [List.take_length])
  have HBP := Lib.hid (fun k (h : k < b.length) => bkTo_put (b := b) (k := k) h)
  have HB0 := Lib.hid (fun k => show b.take k = bkTo b k false from rfl)
  have HB1 := Lib.hid (fun k => show b.take (k + 1) = bkTo b k true from rfl)
  have HBL := Lib.hid (fun k (got : Bool) (h : k < b.length) => show (bkTo b k got).length = if got then k + 1 else k by
    cases got <;> simp [bkTo] <;> omega)
  have HBT := Lib.hid (show b.take b.length = b from List.take_length)
  clear hu hx hf
  go_enter Try.func10, Try.ntmps10
  go_wp2_with fail
  go_loopw [4, 5, 6, 7] (fun v most i _ wr => ∃ (j : Nat) (M : Int), j ≤ l.length ∧ i = .int .i64 j ∧ most = .int .i64 M ∧ Hid (M = (moR f l j : Int) - 1) ∧ NumRow w.heap.size ((l.take j).map f) v wr ∧ Below w.heap.size w wr) (fun _ _ i _ _ => l.length - (intOf i).toNat)
  case atStart => exact ⟨0, -1, by omega, rfl, rfl, Lib.hid (by rw [HM0.out]; rfl), ⟨rfl, Or.inl ⟨rfl, rfl⟩⟩, Below.refl _ _⟩
  case round =>
    obtain ⟨j, M, hj, rfl, rfl, HM, hrow, hbw⟩ := hrel
    by_cases hlt : j < l.length
    · obtain ⟨bb, off, rfl, hbb, hcc⟩ := HU.out (fun e => by rw [e] at hlt; simp at hlt)
      have cj := (hbw.cell (p := ⟨bb, off + j, none⟩) hbb).trans (hcc j hlt)
      have HPJ := Lib.hid (HPL.out j hlt)
      have hpb := HCL.out j hlt
      have HS := Lib.hid (HST.out j hlt)
      have hln := HLN.out j hj
      have HMJ := Lib.hid (HMS.out j hlt)
      have hjI : (j : Int) < (l.length : Int) := by omega
      generalize f (l.getD j []) = p at *
      generalize (l.take j).map f = acc at *
      generalize str (l.getD j []) = X at *
      have gw : IntKind.u64.wrap (p : Int) = (p : Int) := by rw [IntKind.wrap_u64]; omega
      have hlb : (acc.length + 1) * 8 ≤ 140737488355328 := by omega
      have hown : wr.ownsRow w.heap.size 42 1 u4 acc.length (nv acc) := hrow
      have HOWN := Lib.hid hown
      have HUN := Lib.hid (HU.out.next hbw)
      have HBW := Lib.hid hbw
      have hM0 := HM.out
      have HMM := Lib.hid (show (M < (p : Int)) → ((p : Int) = (moR f l (j + 1) : Int) - 1) by rw [HMJ.out]; omega)
      have HMX := Lib.hid (show ¬ (M < (p : Int)) → (M = (moR f l (j + 1) : Int) - 1) by rw [HMJ.out]; omega)
      clear hrow hown hln hcc hbw hM0
      by_cases hMp : M < (p : Int)
      · have g1 : decide (M < (p : Int)) = true := decide_eq_true hMp
        have HN1 := Lib.hid (HMM.out hMp)
        clear hMp
        go_wp2_with fail
        refine (HPJ.out _ HUN.out).mono ?_
        rintro e w4 ⟨rfl, hb4⟩
        have hbw4 := below_then HBW.out hb4
        have HOWN4 := Lib.hid (row_below HOWN.out hb4)
        go_wp2_with (at_builtin; refine wpList_append_one rfl (.tmp 23) (.tmp 26) rfl w.heap.size _ acc.length _ rfl (HOWN4.out.alloc _) w4.heap.size p rfl (World.cell?_alloc_new _ _ _ _) hlb (by have := hbw4.size; simp; omega) ?_)
        intro v' w5 hown5 hgrow5
        have hbw5 : Below w.heap.size w w5 := (hbw4.alloc hbw4.size _).grown hgrow5 (by have := hbw4.size; simp; omega) (fun k hk => (HOWN4.out.lt k hk).1)
        go_wp2_with fail
        refine ⟨⟨j + 1, (p : Int), by omega, by go_num, rfl, HN1, ?_, hbw5⟩, by simp [intOf]; omega⟩
        rw [HS.out]; unfold NumRow; rw [List.length_append]; simpa [nv] using hown5
      · have g1 : decide (M < (p : Int)) = false := decide_eq_false hMp
        have HN1 := Lib.hid (HMX.out hMp)
        clear hMp
        go_wp2_with fail
        refine (HPJ.out _ HUN.out).mono ?_
        rintro e w4 ⟨rfl, hb4⟩
        have hbw4 := below_then HBW.out hb4
        have HOWN4 := Lib.hid (row_below HOWN.out hb4)
        go_wp2_with (at_builtin; refine wpList_append_one rfl (.tmp 23) (.tmp 26) rfl w.heap.size _ acc.length _ rfl (HOWN4.out.alloc _) w4.heap.size p rfl (World.cell?_alloc_new _ _ _ _) hlb (by have := hbw4.size; simp; omega) ?_)
        intro v' w5 hown5 hgrow5
        have hbw5 : Below w.heap.size w w5 := (hbw4.alloc hbw4.size _).grown hgrow5 (by have := hbw4.size; simp; omega) (fun k hk => (HOWN4.out.lt k hk).1)
        go_wp2_with fail
        refine ⟨⟨j + 1, M, by omega, by go_num, rfl, HN1, ?_, hbw5⟩, by simp [intOf]; omega⟩
        rw [HS.out]; unfold NumRow; rw [List.length_append]; simpa [nv] using hown5
    · obtain rfl : j = l.length := by omega
      rw [HEND.out] at hrow
      have hM := HM.out
      rw [HME.out] at hM
      have HMB := Lib.hid hM
      obtain ⟨a2, c2, rfl, hn⟩ := numRow_nums hrow
      obtain ⟨w2, hw2⟩ : ∃ w2, w2 = wr := ⟨_, rfl⟩
      subst hw2
      have HN := Lib.hid hn
      have HU2 := Lib.hid (HU.out.next hbw)
      have HBW := Lib.hid hbw
      generalize hcs : l.map f = cs at *
      have HCSE := Lib.hid hcs
      have HCSL := Lib.hid HML.out
      clear hrow hn hM hbw HM hcs
      go_wp2_with fail
      go_loopw [8, 9, 10] (fun v n _ wr2 => ∃ k : Nat, k ≤ b.length ∧ n = .int .i64 k ∧ TRow w2.heap.size (b.take k) v wr2 ∧ Below w2.heap.size w2 wr2) (fun _ n _ _ => b.length - (intOf n).toNat)
      case atStart => exact ⟨0, by omega, rfl, tnilRow _ _, Below.refl _ _⟩
      case round =>
        obtain ⟨k, hk, rfl, hrow, hbw⟩ := hrel
        by_cases hlt : k < b.length
        · have g1 : decide ((k : Int) ≤ M) = true := decide_eq_true (by have := HMB.out; omega)
          have HBPK := Lib.hid (HBP.out k hlt)
          have HBLK := Lib.hid (fun got => HBL.out k got hlt)
          have HMNK := Lib.hid (fun got h => HMN.out k got hlt h)
          have gw1 : IntKind.i64.wrap ((l.length : Int) - 1) = (l.length : Int) - 1 := by rw [IntKind.wrap_i64]; omega
          rw [HB0.out] at hrow
          have HROW0 := Lib.hid hrow
          have HBW0 := Lib.hid hbw
          clear hrow hbw
          go_wp2_with fail
          go_loopw [8, 10] (fun v i wr3 => ∃ (q : Nat) (I : Int) (got : Bool), q ≤ l.length ∧ i = .int .i64 I ∧ I = (q : Int) - 1 ∧ Hid (Miss f l k q got) ∧ TRow w2.heap.size (bkTo b k got) v wr3 ∧ Below w2.heap.size w2 wr3) (fun _ i _ => (intOf i + 1).toNat)
          case atStart => exact ⟨l.length, (l.length : Int) - 1, false, by omega, rfl, rfl, Lib.hid (fun _ i h1 h2 => absurd h2 (by omega)), HROW0.out, HBW0.out⟩
          case round =>
            obtain ⟨q, I, got, hq, rfl, hI, HMI, hrow, hbw⟩ := hrel
            by_cases h0 : 0 < q
            · obtain ⟨r, rfl⟩ : ∃ r, q = r + 1 := ⟨q - 1, by omega⟩
              obtain rfl : I = (r : Int) := by omega
              have hr : r < l.length := by omega
              obtain ⟨b1, o1, rfl, hb1l, hcc1⟩ := HU2.out (fun e => by rw [e] at hr; simp at hr)
              obtain ⟨b2, o2, rfl, hb2l, hcc2⟩ := HN.out (fun e => by have := HCSL.out; rw [e] at this; simp at this; omega)
              have cx := (hbw.cell (p := ⟨b1, o1 + r, none⟩) hb1l).trans (hcc1 r hr)
              have cc := (hbw.cell (p := ⟨b2, o2 + r, none⟩) hb2l).trans (hcc2 r (by have := HCSL.out; omega))
              rw [HCA.out r hr] at cc
              have hpb := HCL.out r hr
              have hpg := HCG.out r hr
              have HMD := Lib.hid (fun h => HMI.out.down h)
              have gw2 : IntKind.i64.wrap ((r : Int) - 1) = (r : Int) - 1 := by rw [IntKind.wrap_i64]; omega
              have grI : (r : Int) < (l.length : Int) := by omega
              have gr0 : (0 : Int) ≤ (r : Int) := by omega
              have grC : (r : Int) < (cs.length : Int) := by have := HCSL.out; omega
              generalize f (l.getD r []) = p at *
              have gw3 : IntKind.i64.wrap (p : Int) = (p : Int) := by rw [IntKind.wrap_i64]; omega
              obtain ⟨a', c', rfl, _⟩ := tRow_txts hrow
              have hbln := HBLK.out got
              have HBLN := Lib.hid hbln
              have HBW := Lib.hid hbw
              have HROW := Lib.hid hrow
              clear hcc1 hcc2 hI hbw hrow hbln
              by_cases hpk : p = k
              · have g2 : ((p : Int) == (k : Int)) = true := by rw [beq_iff_eq]; omega
                have HPG := Lib.hid (show l.getD r [] = b.getD k [] by rw [← hpk]; exact hpg.symm)
                cases got
                · rw [HPG.out] at cx
                  generalize hacc : bkTo b k false = acc at *
                  generalize b.getD k [] = y at *
                  have g3 : ((acc.length : Int) == (k : Int)) = true := by have := HBLN.out; simp at this; rw [beq_iff_eq]; omega
                  have hlb : (acc.length + 1) * 16 ≤ 140737488355328 := by have := HBLN.out; simp at this; omega
                  generalize hY : str y = Y at *
                  have HY := Lib.hid hY
                  clear hacc hpk hpg hY
                  go_wp2_with (at_builtin; refine wpList_append_onet rfl (.tmp 57) (.tmp 62) rfl w2.heap.size _ acc rfl (HROW.out.alloc_ _) wr.heap.size y rfl (by rw [HY.out]; exact World.cell?_alloc_new _ _ _ _) hlb (by have := HBW.out.size; simp; omega) ?_)
                  intro v' w5 hown5 hb5w
                  have hbw5 : Below w2.heap.size w2 w5 := (HBW.out.alloc HBW.out.size _).trans hb5w
                  go_wp2_with fail
                  exact ⟨⟨r, (r : Int) - 1, true, by omega, by go_num, rfl, Lib.hid Miss.got, by rw [HBPK.out]; exact hown5, hbw5⟩, by simp [intOf]⟩
                · have g3 : (((bkTo b k true).length : Int) == (k : Int)) = false := by have := HBLN.out; simp at this; rw [beq_eq_false_iff_ne]; omega
                  clear hpk hpg
                  go_wp2_with fail
                  exact ⟨⟨r, (r : Int) - 1, true, by omega, by go_num, rfl, Lib.hid Miss.got, HROW.out, HBW.out⟩, by simp [intOf]⟩
              · have g2 : ((p : Int) == (k : Int)) = false := by rw [beq_eq_false_iff_ne]; omega
                have HN1 := Lib.hid (HMD.out hpk)
                clear hpk hpg
                go_wp2_with fail
                exact ⟨⟨r, (r : Int) - 1, got, by omega, by go_num, rfl, HN1, HROW.out, HBW.out⟩, by simp [intOf]⟩
            · obtain rfl : q = 0 := by omega
              have gI : decide ((0 : Int) ≤ I) = false := decide_eq_false (by omega)
              have hg := HMNK.out got HMI.out
              subst hg
              rw [← HB1.out] at hrow
              go_wp2_with fail
              exact ⟨⟨k + 1, by omega, by go_num, hrow, hbw⟩, by simp [intOf]; omega⟩
        · obtain rfl : k = b.length := by omega
          have g1 : decide ((b.length : Int) ≤ M) = false := decide_eq_false (by have := HMB.out; omega)
          rw [HBT.out] at hrow
          obtain ⟨a', c', rfl, ht, _⟩ := tRow_txts hrow
          have HT := Lib.hid ht
          have HBW2 := Lib.hid hbw
          clear hrow ht hbw
          go_wp2_with fail
          go_ret2
          exact ⟨a', c', a2, c2, by rw [HCSL.out]; rfl, HT.out, by rw [HCSE.out]; exact HN.out.next HBW2.out, below_then HBW.out HBW2.out⟩
end Go.Proofs.Ytdabpnpiojmbbaa
