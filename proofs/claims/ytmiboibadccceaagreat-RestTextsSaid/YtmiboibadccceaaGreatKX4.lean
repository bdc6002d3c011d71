/- What dict.Of makes: fresh. -/
import Derived.Test.YtmiboibadccceaaGreatKX0
namespace Go.Proofs.YtmiboibadccceaaGreat
open Go.RowKit
set_option linter.unusedVariables false

/-- what Of leaves, the book fresh -/
def OfPostF (r : List (List UInt8) × List Nat × Nat) (w : World) (e : Ending) (w' : World) : Prop :=
  ∃ a c a2 c2, e = .returned (.tuple #[.slice a r.1.length c, .slice a2 r.2.1.length c2, .int .i64 r.2.2]) ∧ (Txts w' w'.heap.size a r.1 ∧ Fr w.heap.size w' a r.1.length) ∧ Nums w' w'.heap.size a2 r.2.1 ∧ Below w.heap.size w w'

set_option maxHeartbeats 2000000 in
set_option maxRecDepth 100000 in
theorem dictOff_any (a : Option Addr) (c : Nat) (l : List (List UInt8)) (w : World) (hu : Txts w w.heap.size a l) :
    Calls Tryz.prog 32 #[.slice a l.length c] w (OfPostF (ofR l) w) := by
  obtain ⟨i0, hi, hz0, hz1, hz2⟩ := info_parts info_u64
  have HF := Lib.hid (fit_any a c l w hu)
  unfold ofR
  by_cases hf : fitR l ≠ 0
  · rw [if_pos hf]
    generalize fitR l = er at *
    have g1 : ((er : Int) != 0) = true := by rw [bne_iff_ne]; omega
    clear hu
    go_enter Tryz.func32, Tryz.ntmps32
    go_wp2_with fail
    refine (HF.out).mono ?_
    rintro e w1 ⟨rfl, rfl⟩
    go_wp2_with fail
    go_ret3
    exact ⟨none, 0, none, 0, rfl, ⟨Txts.nil _ _ _, Fr.none_ _ _ _⟩, Nums.nil _ _ _, Below.refl _ _⟩
  rw [if_neg hf]
  have hf0 : fitR l = 0 := by omega
  rw [hf0] at HF
  obtain ⟨hl64, hlx⟩ := fit_zero hf0
  have HSO := Lib.hid (dsorted_any a c l w hl64 hu)
  have hup := T.bk_up l
  have HBM := Lib.hid (fun x => T.bk_mem l x)
  have hblen : (T.bk l).length ≤ 64 := by
    have hsl : (l.mergeSort fun x y => decide (x ≤ y)).length = l.length := List.length_mergeSort l
    have : (T.bk l).length ≤ (l.mergeSort fun x y => decide (x ≤ y)).length := Lib.compact_length_le _
    omega
  have HBX := Lib.hid (fun k (h : k < (T.bk l).length) => show ((T.bk l).getD k []).length ≤ 16 from hlx _ ((T.bk_mem l _).1 (tgetD_mem _ k h)))
  have HLX := Lib.hid (fun k (h : k < l.length) => hlx _ (tgetD_mem l k h))
  have HLM := Lib.hid (fun k (h : k < l.length) => show l.getD k [] ∈ T.bk l from (T.bk_mem l _).2 (tgetD_mem l k h))
  have HU := Lib.hid hu
  have HUP := Lib.hid hup
  unfold SortPost at HSO
  generalize T.bk l = b at *
  have HST := Lib.hid (fun j h => nget_step (T.plc b) l j h)
  have HLN := Lib.hid (fun j h => nget_len (T.plc b) l j h)
  have HEND := Lib.hid (show (l.take l.length).map (T.plc b) ++ List.replicate (l.length - l.length) 0 = l.map (T.plc b) by rw [List.take_length, Nat.sub_self]; simp)
  have HML := Lib.hid (show (l.map (T.plc b)).length = l.length by simp)
  have HPB := Lib.hid (fun x => T.plc_le b x)
  have HPA := Lib.hid (fun (D : DataW Unit) (h : Has b D b.length) (x : List UInt8) (hx : x ∈ b) => h.at HUP.out hx)
  have hmm : ∀ (w : World) (n : Int), (Instr.makeMap 81 (some (.int .i64 n))).run Tryz.prog w = .ok (.map (some w.heap.size)) (w.alloc (.map #[] 0)) := fun _ _ => by kernel_rfl
  clear hf hf0 hlx hup hu
  go_enter Tryz.func32, Tryz.ntmps32
  go_wp2_with fail
  refine (HF.out).mono ?_
  rintro e w1 ⟨rfl, rfl⟩
  go_wp2_with fail
  refine (HSO.out).mono ?_
  rintro e w2 ⟨a2, c2, rfl, hrow, hb2⟩
  have HT2 := Lib.hid hrow.txts.1
  have HFR := Lib.hid hrow.tf.2
  clear hrow
  have hm0 : (w2.alloc (.map #[] 0)).ownsMap Tryz.prog 9 (plainElem (H := Unit) Tryz.prog 46) w2.heap.size 0 (.map []) := World.ownsMap_made _ _ _ _
  have hbm : Below w2.heap.size w2 (w2.alloc (.map #[] 0)) := (Below.refl _ _).alloc (Nat.le_refl _) _
  go_wp2_with fail
  go_loopw [8, 9, 25] (fun _ _ i wr => ∃ (k : Nat) (D : DataW Unit), k ≤ b.length ∧ i = .int .i64 k ∧ wr.ownsMap Tryz.prog 9 (plainElem (H := Unit) Tryz.prog 46) w2.heap.size k D ∧ Hid (Has b D k) ∧ Below w2.heap.size w2 wr) (fun _ _ i _ => b.length - (intOf i).toNat)
  case atStart => exact ⟨0, .map [], by omega, rfl, hm0, Lib.hid (fun i hi => absurd hi (by omega)), hbm⟩
  case round =>
    obtain ⟨k, D, hk, rfl, hown, HHS, hbw⟩ := hrel
    by_cases hlt : k < b.length
    · obtain ⟨b1, off1, rfl, hb1l, hcc1⟩ := HT2.out (fun e => by rw [e] at hlt; simp at hlt)
      have cx := (hbw.cell (p := ⟨b1, off1 + k, none⟩) hb1l).trans (hcc1 k hlt)
      have hxl := HBX.out k hlt
      have HPU := Lib.hid (HHS.out.put hown.isMap HUP.out hlt)
      generalize b.getD k [] = x at *
      have hkey := key_str x (by unfold maxLen; omega)
      generalize str x = X at *
      have hkI : (k : Int) < (b.length : Int) := by omega
      have hwk : IntKind.u64.wrap (k : Int) = (k : Int) := by rw [IntKind.wrap_u64]; omega
      have HOWN := Lib.hid hown
      have HKEY := Lib.hid hkey
      have hwf := wf_u64 k (by omega)
      have HWF := Lib.hid hwf
      clear hcc1 hown hkey hwf
      go_wp2_with (at_mapUpdate; refine wpList_mapUpdate_own _ rfl (.tmp 30) (.tmp 31) (.tmp 33) 81 rfl 9 46 law_str Tryz.underlying81 _ w2.heap.size k _ rfl HOWN.out (by unfold maxLen; omega) _ _ _ rfl rfl HKEY.out _ [] (plainElem_int Tryz.underlying46 HWF.out) ?_)
      intro w5 hown5 hgrow5
      have hbw5 : Below w2.heap.size w2 w5 := hbw.grown hgrow5 hbw.size (fun j hj => by cases hj; exact Nat.le_refl _)
      have HOWN5 := Lib.hid hown5
      clear hown5 hgrow5
      go_wp2_with fail
      exact ⟨⟨k + 1, _, by omega, by go_num, HOWN5.out, HPU, hbw5⟩, by simp [intOf]; omega⟩
    · obtain rfl : k = b.length := by omega
      have HOWN := Lib.hid hown
      have HAT := Lib.hid (fun x hx => HPA.out D HHS.out x hx)
      have hMlt := ownsMap_lt hown
      clear hown HHS
      go_wp2_with (at_make; refine wpList_make_full _ rfl _ _ 22 rfl wr.heap.size 46 i0 (.int .u64 0) 1 Tryz.underlying22 hi hz0 hz1 .i64 .i64 _ _ l.length rfl rfl rfl rfl (by rw [hz2]; omega) (by unfold maxLen; omega) (Nat.le_refl _) ?_; intro w6 hown6 hgrow6)
      have hb6 : Below wr.heap.size wr w6 := (Below.refl _ _).grown hgrow6 (Nat.le_refl _) (fun k hk => by cases hk)
      have hblk := made_ublk hown6
      obtain ⟨g, hg⟩ : ∃ g, g = wr.heap.size := ⟨_, rfl⟩
      rw [← hg] at hblk ⊢
      have hgM : w2.heap.size < g := by omega
      have HOWN6 := Lib.hid (ownsMap_keep HOWN.out (hb6.block w2.heap.size hMlt))
      have hbw6 : Below w2.heap.size w2 w6 := hbw.trans (hb6.mono hbw.size)
      clear hg hown6 hgrow6
      go_wp2_with fail
      go_loopw [11, 12, 40] (fun _ _ i wr2 => ∃ j : Nat, j ≤ l.length ∧ i = .int .i64 j ∧ UBlk wr2 g ((l.take j).map (T.plc b) ++ List.replicate (l.length - j) 0) ∧ wr2.ownsMap Tryz.prog 9 (plainElem (H := Unit) Tryz.prog 46) w2.heap.size b.length D ∧ Below w2.heap.size w2 wr2) (fun _ _ i _ => l.length - (intOf i).toNat)
      case atStart => exact ⟨0, by omega, rfl, by simpa using hblk, HOWN6.out, hbw6⟩
      case round =>
        obtain ⟨j, hj, rfl, hub, hom, hbw2⟩ := hrel
        by_cases hlt : j < l.length
        · obtain ⟨b1, off1, rfl, hb1l, hcc1⟩ := HU.out (fun e => by rw [e] at hlt; simp at hlt)
          have cx := (hbw2.cell (p := ⟨b1, off1 + j, none⟩) (show b1 < w2.heap.size by have := hb2.size; omega)).trans ((hb2.cell (p := ⟨b1, off1 + j, none⟩) hb1l).trans (hcc1 j hlt))
          have hxl := HLX.out j hlt
          have hxm := HLM.out j hlt
          have HS := Lib.hid (HST.out j hlt)
          have hln := HLN.out j hj
          generalize l.getD j [] = x at *
          have hkey := key_str x (by unfold maxLen; omega)
          have hat0 := HAT.out x hxm
          have hpb := HPB.out x
          generalize T.plc b x = p at *
          generalize (l.take j).map (T.plc b) ++ List.replicate (l.length - j) 0 = acc at *
          generalize str x = X at *
          have hjI : (j : Int) < (l.length : Int) := by omega
          have u1 := hub.cell j (by omega)
          have u2 := hub.free j
          have HUB2 := Lib.hid (hub.put j p)
          generalize acc.getD j 0 = oz at *
          have HOM := Lib.hid hom
          have HKEY := Lib.hid hkey
          have HA0 := Lib.hid hat0
          have HKP := Lib.hid (show (wr.setCell ⟨g, j, none⟩ (.int .u64 (p : Int))).ownsMap Tryz.prog 9 (plainElem (H := Unit) Tryz.prog 46) w2.heap.size b.length D from ownsMap_keep hom (by
            have hne : ¬ g = w2.heap.size := by omega
            simp [World.setCell, Array.getElem?_modify, hne]))
          clear hcc1 hom hkey hat0 hub hln
          go_wp2_with (at_lookup; refine wpList_lookup_own_int _ rfl (.tmp 47) (.tmp 48) 81 rfl 9 46 .u64 law_str Tryz.underlying81 Tryz.underlying46 (zero_u64 _) w2.heap.size b.length D rfl HOM.out _ _ rfl HKEY.out ?_)
          intro cv hat hwc
          have hcp : cv = (p : Int) := by
            have h1 := HA0.out
            rw [hat] at h1
            injection h1 with h1
            injection h1
          subst hcp
          clear hat hwc
          go_wp2_with fail
          exact ⟨⟨j + 1, by omega, by go_num, by rw [← HS.out]; exact HUB2.out, HKP.out, hbw2.setCell (p := ⟨g, j, none⟩) (show w2.heap.size ≤ g by omega) _⟩, by simp [intOf]; omega⟩
        · obtain rfl : j = l.length := by omega
          rw [HEND.out] at hub
          have HNM := Lib.hid hub.nums
          have HTF := Lib.hid (And.intro (HT2.out.next hbw2) (HFR.out.next hbw2))
          clear hub hom
          go_wp2_with fail
          go_ret3
          exact ⟨a2, c2, some ⟨g, 0, none⟩, l.length, by rw [HML.out]; rfl, HTF.out, HNM.out, below_then hb2 hbw2⟩
end Go.Proofs.YtmiboibadccceaaGreat
