/- The walk of the reference's moved. -/
import Derived.Test.YtmjcdjekakaigaaFsR5
import Derived.Deep.RegionHeld3
namespace Go.Proofs.Ytmjcdjekakaigaa.Fs
open Go.RowKit
set_option linter.unusedVariables false

theorem step_append_en {w : World} {ops : Array Oper} {o : Oper} {a : Act} {K : Act → World → Prop} {Q : Exit → Act → World → Prop} {E : Prop} (hw : Region.wanted o (yielded ops a.tmps) = true) (s x : Operand)
    (ho : o.op = .call { callee := .builtin .append, args := #[s, x], argTypes := #[23, 23] }) (base : Nat)
    (v : Value) (xs : List En) (hs : a.eval s = v) (hown : ERow base xs v w)
    (A : Option Addr) (m c : Nat) (l : List En) (hm : l.length = m) (hx : a.eval x = .slice A m c) (hnil : A = none → c = 0) (hu : Ens w w.heap.size A l)
    (hbytes : (xs.length + m) * 24 ≤ 140737488355328) (hbase : base ≤ w.heap.size)
    (h : ∀ v' w', ERow base (xs ++ l) v' w' → Below base w w' → w.grownBy w' v.ownBlock → K (a.put o.dst v') w') :
    if Region.wanted o (yielded ops a.tmps) = true then Oper.wp Try.prog o a w K Q else E := by
  rw [if_pos hw]
  exact wp_append_en s x ho base v xs hs hown A m c l hm hx hnil hu hbytes hbase h
set_option maxHeartbeats 8000000 in
set_option maxRecDepth 100000 in
theorem rMoved_any (p : At) (f : T) (a : Option Addr) (c : Nat) (l : List En) (w : World) (h : Fss w w.heap.size p f) (hl : l.length ≤ 1048576) (hu : Ens w w.heap.size a l) (hok : ∀ e ∈ l, 0 ≤ e.node ∧ e.node ≤ 1048576) :
    Calls Try.prog 45 #[fsV p f, .slice a l.length c] w (ERowPost (moved f.dir f.syn l) w) := by
  have hal : Below w.heap.size w (w.alloc (.cells #[.slice p.an f.nodes.length p.cn, .slice p.ad f.dir.length p.cd, .slice p.ay f.syn.length p.cy] 25)) := (Below.refl _ _).alloc (Nat.le_refl _) _
  have hT : Bk (w.alloc (.cells #[.slice p.an f.nodes.length p.cn, .slice p.ad f.dir.length p.cd, .slice p.ay f.syn.length p.cy] 25)) w.heap.size 25 #[.slice p.an f.nodes.length p.cn, .slice p.ad f.dir.length p.cd, .slice p.ay f.syn.length p.cy] := bk_new _ _ _
  have HU := Lib.hid (hu.next enAt_firm hal)
  have HT := Lib.hid hT
  have HFW := Lib.hid (fun k (hk : k ≤ 1048576) W (hb : Below (w.alloc (.cells #[.slice p.an f.nodes.length p.cn, .slice p.ad f.dir.length p.cd, .slice p.ay f.syn.length p.cy] 25)).heap.size (w.alloc (.cells #[.slice p.an f.nodes.length p.cn, .slice p.ad f.dir.length p.cd, .slice p.ay f.syn.length p.cy] 25)) W) => rFewer_any p f k W ((h.next hal).next hb) hk)
  have HL := Lib.hid (fun (j : Nat) => fewer_le f.dir f.syn j)
  obtain ⟨ND, hND⟩ : ∃ ND : Nat → Nat, ND = fun k => (l.getD k nulE).node.toNat := ⟨_, rfl⟩
  have HND := Lib.hid (fun k (hk : k < l.length) => show (l.getD k nulE).node = (ND k : Int) ∧ ND k ≤ 1048576 by
    have := hok _ (getD_mem l nulE k hk)
    rw [hND]; simp only; omega)
  obtain ⟨M, hM⟩ : ∃ M : Nat → List En, M = fun k => moved f.dir f.syn (l.take k) := ⟨_, rfl⟩
  have HMS := Lib.hid (fun k (hk : k < l.length) => show M (k + 1) = M k ++ [⟨(l.getD k nulE).name, (fewer f.dir f.syn (ND k) : Nat)⟩] by
    rw [hM, hND]; show moved f.dir f.syn (l.take (k + 1)) = _
    rw [take_snoc l nulE k hk]; unfold moved; rw [List.map_append]; rfl)
  have HML := Lib.hid (fun k => show (M k).length ≤ l.length by rw [hM]; unfold moved; simp only [List.length_map, List.length_take]; omega)
  have HM0 := Lib.hid (show M 0 = [] by rw [hM]; simp [moved])
  have HME := Lib.hid (show M l.length = moved f.dir f.syn l by rw [hM]; simp only [List.take_length])
  have hs0 := hal.size
  obtain ⟨an, cn, ad, cd, ay, cy⟩ := p
  unfold fsV at *
  simp only at *
  generalize moved f.dir f.syn l = R at *
  generalize fewer f.dir f.syn = FW at *
  clear h hu hM hND hok hT
  go_enter Try.func45, Try.ntmps45
  go_wp2_with fail
  obtain ⟨W0, hW0⟩ : ∃ W0, W0 = w.alloc (.cells #[.slice an f.nodes.length cn, .slice ad f.dir.length cd, .slice ay f.syn.length cy] 25) := ⟨_, rfl⟩
  rw [← hW0] at hal hs0 HU HT HFW ⊢
  clear hW0
  generalize f.nodes.length = ln at *
  generalize f.dir.length = ld at *
  generalize f.syn.length = ls at *
  go_loopw [5, 6] (fun v i wr => ∃ k : Nat, k ≤ l.length ∧ i = .int .i64 k ∧ Hid (ERow W0.heap.size (M k) v wr) ∧ Below W0.heap.size W0 wr) (fun _ i _ => l.length - (intOf i).toNat)
  case atStart => exact ⟨0, by omega, rfl, Lib.hid (by rw [HM0.out]; exact enil _ _), Below.refl _ _⟩
  case round =>
    obtain ⟨k, hk, rfl, HR, hbw⟩ := hrel
    by_cases hlt : k < l.length
    · obtain ⟨bb, off, rfl, hbb, hcc⟩ := HU.out (fun e => by rw [e] at hlt; simp at hlt)
      obtain ⟨k0, k1⟩ := hcc k hlt
      obtain ⟨n1, n2⟩ := HND.out k hlt
      rw [n1] at k1
      have c0 : ∀ W, Below W0.heap.size W0 W → W.cell? ⟨bb, off + k * 2, none⟩ = some (.string (str (l.getD k nulE).name)) := fun W hb => (hb.cell (p := ⟨bb, off + k * 2, none⟩) hbb).trans k0
      have c1 : ∀ W, Below W0.heap.size W0 W → W.cell? ⟨bb, off + k * 2 + 1, none⟩ = some (.int .i64 (ND k : Nat)) := fun W hb => (hb.cell (p := ⟨bb, off + k * 2 + 1, none⟩) hbb).trans k1
      have d0 : ∀ W, Below W0.heap.size W0 W → W.cell? ⟨w.heap.size, 0, none⟩ = some (.slice an ln cn) := fun W hb => (HT.out.next hb).three.1
      have d1 : ∀ W, Below W0.heap.size W0 W → W.cell? ⟨w.heap.size, 1, none⟩ = some (.slice ad ld cd) := fun W hb => (HT.out.next hb).three.2.1
      have d2 : ∀ W, Below W0.heap.size W0 W → W.cell? ⟨w.heap.size, 2, none⟩ = some (.slice ay ls cy) := fun W hb => (HT.out.next hb).three.2.2
      have hkI : (k : Int) < (l.length : Int) := by omega
      have HST := Lib.hid (HMS.out k hlt)
      have hml := HML.out k
      have HON := Lib.hid (fun W => ens_one W ⟨(l.getD k nulE).name, (FW (ND k) : Nat)⟩)
      have HFX := Lib.hid (HFW.out (ND k) n2)
      have hfl := HL.out (ND k)
      generalize hxn : (l.getD k nulE).name = xn at *
      generalize ND k = nd at *
      generalize FW nd = fw at *
      have hby : ((M k).length + 1) * 24 ≤ 140737488355328 := by omega
      clear k0 k1 hcc n1 hxn
      go_wp2_with fail
      go_region_held3 (fun W => Below W0.heap.size W0 W)
        (first
          | assumption
          | exact (show Below W0.heap.size W0 _ by assumption).drew
          | exact (show Below W0.heap.size W0 _ by assumption).alloc (show Below W0.heap.size W0 _ by assumption).size _
          | exact below_then (by assumption) hb9
          | exact Below.trans (by assumption) (hb9.mono (show Below W0.heap.size W0 _ by assumption).size)
          | exact Below.trans (by assumption) hb9)
        (first
          | (go_at_call 53; refine (HFX.out _ (by assumption)).mono ?_; rintro e w9 ⟨rfl, hb9⟩; have hr9 := ERow.below (by exact HR.out) hb9; have hs9 := Nat.le_trans (show Below W0.heap.size W0 _ by assumption).size hb9.size)
          | (refine step_append_en ?_ (.tmp 13) (.tmp 27) rfl W0.heap.size _ (M k) rfl ?_ _ 1 1 [⟨xn, (fw : Nat)⟩] rfl rfl (fun h => by cases h) (HON.out _) hby ?_ ?_; rfl; (first | exact World.ownsRow.alloc hr9 _ | exact hr9); (first | exact (show Below W0.heap.size W0 _ by assumption).size); intro v10 w10 hrow10 hb9 hg10))
      have hbz : Below W0.heap.size W0 w10 := by assumption
      have HN := Lib.hid (show ERow W0.heap.size (M (k + 1)) v10 w10 by rw [HST.out]; exact hrow10)
      clear hrow10 hg10 hr9
      go_wp2_with fail
      exact ⟨⟨k + 1, by omega, by go_num, HN, hbz⟩, by simp [intOf]; omega⟩
    · obtain rfl : k = l.length := by omega
      have HN := Lib.hid (show ERow w.heap.size R _ wr by rw [← HME.out]; exact HR.out.weak hs0)
      go_wp2_with fail
      go_ret
      exact ⟨_, rfl, HN.out, hal.trans (hbw.mono hs0)⟩
end Go.Proofs.Ytmjcdjekakaigaa.Fs
