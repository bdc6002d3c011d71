/- Two directories compared: the reference's sameDir. -/
import Derived.Test.YtmjcdjekakaigaaFsR8
import Derived.Laws.StructEq
namespace Go.Proofs.Ytmjcdjekakaigaa.Fs
open Go.RowKit
set_option linter.unusedVariables false

theorem en_neq (w : World) (c d : En) : (binOp .neq 47 (enV c) (enV d)).run Try.prog w = .ok (.bool (decide (c ≠ d))) w := by
  have hs : Try.prog.stoodInHeld 47 = false := by kernel_rfl
  unfold enV
  rw [run_neq_struct, run_equalIn_agg w 9999 47 _ _ (by kernel_rfl) hs]
  obtain ⟨a1, a2⟩ := c
  obtain ⟨b1, b2⟩ := d
  simp only
  simp [Program.fieldsOf, Try.underlying47, Op.eqFields, go_sem]
  rw [str_toList, str_toList]
  by_cases h1 : a1 = b1
  · by_cases h2 : a2 = b2
    · simp [h1, h2]
    · simp [h1, h2]
  · simp [h1]
theorem nd_neq (w : World) (c d : Nd) : (binOp .neq 49 (ndV c) (ndV d)).run Try.prog w = .ok (.bool (decide (c ≠ d))) w := by
  have hs : Try.prog.stoodInHeld 49 = false := by kernel_rfl
  unfold ndV
  rw [run_neq_struct, run_equalIn_agg w 9999 49 _ _ (by kernel_rfl) hs]
  obtain ⟨a1, a2⟩ := c
  obtain ⟨b1, b2⟩ := d
  simp only
  simp [Program.fieldsOf, Try.underlying49, Op.eqFields, go_sem]
  rw [str_toList, str_toList, str_toList, str_toList]
  by_cases h1 : a1 = b1
  · by_cases h2 : a2 = b2
    · simp [h1, h2]
    · simp [h1, h2]
  · simp [h1]
theorem guard_en : Try.prog.eqGuardType Try.prog.depth 47 = false := by kernel_rfl
theorem guards_en (op : BinOp) : ∀ w o o' xs ys, (eqGuard op 47 o o' (.agg xs) (.agg ys)).run Try.prog w = .ok () w := fun w o o' xs ys => run_eqGuard_agg (P := Try.prog) w op 47 o o' xs ys guard_en
theorem guard_nd : Try.prog.eqGuardType Try.prog.depth 49 = false := by kernel_rfl
theorem guards_nd (op : BinOp) : ∀ w o o' xs ys, (eqGuard op 49 o o' (.agg xs) (.agg ys)).run Try.prog w = .ok () w := fun w o o' xs ys => run_eqGuard_agg (P := Try.prog) w op 49 o o' xs ys guard_nd
theorem etake_eq_succ {α : Type} {z : α} (l m : List α) (k : Nat) (hlm : l.length = m.length) (hk : k < l.length) (h : l.take k = m.take k) (hq : l.getD k z = m.getD k z) : l.take (k + 1) = m.take (k + 1) := by
  rw [take_snoc l z k hk, take_snoc m z k (by omega), h, hq]
theorem ene_at {α : Type} {z : α} (l m : List α) (k : Nat) (hq : l.getD k z ≠ m.getD k z) : ¬ l = m := fun e => hq (by rw [e])
theorem etake_eq_all {α : Type} (l m : List α) (k : Nat) (hlm : l.length = m.length) (hk : l.length ≤ k) (h : l.take k = m.take k) : l = m := by
  rwa [List.take_of_length_le hk, List.take_of_length_le (by omega)] at h

set_option maxHeartbeats 400000 in
theorem esame_len (a a' : Option Addr) (n m c c' : Nat) (w : World) (h : ((n : Int) != (m : Int)) = true) :
    Calls Try.prog 37 #[.slice a n c, .slice a' m c'] w (BoolPost false w) := by
  go_enter Try.func37, Try.ntmps37
  go_wp2_with fail
  go_ret
  exact ⟨rfl, Below.refl _ _⟩

set_option maxHeartbeats 400000 in
theorem esame_nil (a a' : Option Addr) (c c' : Nat) (w : World) :
    Calls Try.prog 37 #[.slice a 0 c, .slice a' 0 c'] w (BoolPost true w) := by
  go_enter Try.func37, Try.ntmps37
  go_wp2_with fail
  refine wp_loop_rounds 1 ?_
  rw [rounds_succ]
  go_wp2_with fail
  go_ret
  exact ⟨rfl, Below.refl _ _⟩

set_option maxHeartbeats 1000000 in
set_option maxRecDepth 100000 in
theorem esame_any (a a' : Option Addr) (c c' : Nat) (l m : List En) (w : World) (B : Nat) (h1 : Ens w B a l) (h2 : Ens w B a' m) (hl : l.length ≤ 9223372036854775807) :
    Calls Try.prog 37 #[.slice a l.length c, .slice a' m.length c'] w (BoolPost (decide (l = m)) w) := by
  by_cases hlm' : ¬ l.length = m.length
  · have hlm := hlm'
    rw [decide_eq_false (fun e => hlm (by rw [e]))]
    exact esame_len a a' _ _ c c' w (by simpa using (by omega : ¬ (l.length : Int) = (m.length : Int)))
  have hlm : l.length = m.length := Classical.not_not.1 hlm'
  clear hlm'
  by_cases hn : l = []
  · subst hn
    obtain rfl : m = [] := List.eq_nil_of_length_eq_zero hlm.symm
    exact esame_nil a a' c c' w
  obtain ⟨b, off, rfl, _, h1⟩ := h1 hn
  obtain ⟨b', off', rfl, _, h2⟩ := h2 (by intro e; rw [e] at hlm; exact hn (List.eq_nil_of_length_eq_zero hlm))
  rw [← hlm]
  have H1 := Lib.hid h1
  have H2 := Lib.hid h2
  have HL := Lib.hid hlm
  clear h1 h2 hlm hn
  go_enter Try.func37, Try.ntmps37
  go_wp2_with fail
  go_loopw [5] (fun i wr => ∃ k d : Nat, k ≤ l.length ∧ i = .int .i64 k ∧ wr = w.drewN d ∧ Hid (l.take k = m.take k)) (fun i _ => l.length - (intOf i).toNat)
  case atStart => exact ⟨0, 0, by omega, rfl, rfl, Lib.hid (by simp)⟩
  case round =>
    obtain ⟨k, d, hk, rfl, rfl, HK⟩ := hrel
    by_cases hlt : k < l.length
    · obtain ⟨c1, c2⟩ := H1.out k hlt
      obtain ⟨d1, d2⟩ := H2.out k (by rw [← HL.out]; exact hlt)
      have HQ := Lib.hid (fun hq => etake_eq_succ (z := nulE) l m k HL.out hlt HK.out hq)
      have HNQ := Lib.hid (fun hq => ene_at (z := nulE) l m k hq)
      generalize l.getD k nulE = p at *
      generalize m.getD k nulE = q at *
      have hgd := guards_en .neq
      have hne := fun w => en_neq w p q
      unfold enV at hne
      by_cases hq : p = q
      · have HT := Lib.hid (HQ.out hq)
        rw [decide_eq_false (fun e => e hq)] at hne
        generalize p.node = p1 at *
        generalize str p.name = p3 at *
        generalize q.node = q1 at *
        generalize str q.name = q3 at *
        clear hq HQ HNQ
        go_wp2_with fail
        go_quiet (fail)
        clear hne hgd
        go_wp2_with fail
        exact ⟨⟨k + 1, d + nq, by omega, by go_num, rfl, HT⟩, by simp [intOf]; omega⟩
      · have HN := Lib.hid (HNQ.out hq)
        rw [decide_eq_true hq] at hne
        generalize p.node = p1 at *
        generalize str p.name = p3 at *
        generalize q.node = q1 at *
        generalize str q.name = q3 at *
        clear hq HQ HNQ
        go_wp2_with fail
        go_quiet (fail)
        clear hne hgd
        go_wp2_with fail
        go_ret
        exact ⟨by rw [decide_eq_false HN.out]; rfl, below_drewN (below_drewN (Below.refl _ _) _) _⟩
    · have HE := Lib.hid (etake_eq_all l m k HL.out (by omega) HK.out)
      go_wp2_with fail
      go_ret
      exact ⟨by rw [decide_eq_true HE.out]; rfl, below_drewN (Below.refl _ _) _⟩
set_option maxHeartbeats 4000000 in
set_option maxRecDepth 100000 in
theorem rSame_core (pan pad pay qan qad qay : Option Addr) (pcn pcd pcy qcn qcd qcy n pd ps qd qs : Nat) (A1 A2 B1 B2 : Nat → ByteArray) (E : Nat → Bool) (R : Bool) (w : World) (hn : n ≤ 9223372036854775807)
    (ha : n ≠ 0 → ∃ b off, pan = some ⟨b, off, none⟩ ∧ b < w.heap.size ∧ ∀ k, k < n → w.cell? ⟨b, off + k * 2, none⟩ = some (.string (A1 k)) ∧ w.cell? ⟨b, off + k * 2 + 1, none⟩ = some (.string (A2 k)))
    (hb : n ≠ 0 → ∃ b off, qan = some ⟨b, off, none⟩ ∧ b < w.heap.size ∧ ∀ k, k < n → w.cell? ⟨b, off + k * 2, none⟩ = some (.string (B1 k)) ∧ w.cell? ⟨b, off + k * 2 + 1, none⟩ = some (.string (B2 k)))
    (hE : ∀ k, k < n → ∀ w, (binOp .neq 49 (.agg #[.string (A1 k), .string (A2 k)]) (.agg #[.string (B1 k), .string (B2 k)])).run Try.prog w = .ok (.bool (!E k)) w)
    (hdir : ∀ W, Below w.heap.size w W → Calls Try.prog 37 #[.slice pad pd pcd, .slice qad qd qcd] W (BoolPost true W))
    (hsyn : ∀ W, Below w.heap.size w W → Calls Try.prog 37 #[.slice pay ps pcy, .slice qay qs qcy] W (BoolPost true W))
    (hR1 : (∀ k, k < n → E k = true) → R = true) (hR2 : ∀ k, k < n → E k = false → R = false) :
    Calls Try.prog 17 #[.agg #[.slice pan n pcn, .slice pad pd pcd, .slice pay ps pcy], .agg #[.slice qan n qcn, .slice qad qd qcd, .slice qay qs qcy]] w (BoolPost R w) := by
  have hal1 : Below w.heap.size w (w.alloc (.cells #[.slice pan n pcn, .slice pad pd pcd, .slice pay ps pcy] 25)) := (Below.refl _ _).alloc (Nat.le_refl _) _
  have hT1 := bk_new w 25 #[.slice pan n pcn, .slice pad pd pcd, .slice pay ps pcy]
  have e1 : (w.alloc (.cells #[.slice pan n pcn, .slice pad pd pcd, .slice pay ps pcy] 25)).heap.size = w.heap.size + 1 := by simp
  generalize hWa : w.alloc (.cells #[.slice pan n pcn, .slice pad pd pcd, .slice pay ps pcy] 25) = Wa at *
  have hal2 : Below Wa.heap.size Wa (Wa.alloc (.cells #[.slice qan n qcn, .slice qad qd qcd, .slice qay qs qcy] 25)) := (Below.refl _ _).alloc (Nat.le_refl _) _
  have hT2 := bk_new Wa 25 #[.slice qan n qcn, .slice qad qd qcd, .slice qay qs qcy]
  generalize hWc : Wa.alloc (.cells #[.slice qan n qcn, .slice qad qd qcd, .slice qay qs qcy] 25) = W0 at *
  have hal : Below w.heap.size w W0 := hal1.trans (hal2.mono hal1.size)
  have HW := Lib.hid (show (w.alloc (.cells #[.slice pan n pcn, .slice pad pd pcd, .slice pay ps pcy] 25)).alloc (.cells #[.slice qan n qcn, .slice qad qd qcd, .slice qay qs qcy] 25) = W0 by rw [hWa, hWc])
  have HT := Lib.hid (hT1.next hal2)
  rw [e1] at hT2
  have HU := Lib.hid hT2
  have hs0 := hal.size
  have HDD := Lib.hid (fun W (hb : Below W0.heap.size W0 W) => hdir W (hal.trans (hb.mono hs0)))
  have HSS := Lib.hid (fun W (hb : Below W0.heap.size W0 W) => hsyn W (hal.trans (hb.mono hs0)))
  have HA := Lib.hid ha
  have HB := Lib.hid hb
  have HEE := Lib.hid hE
  have HR1 := Lib.hid hR1
  have HR2 := Lib.hid hR2
  clear hWa hWc hal1 hal2 hT1 hT2 e1 ha hb hE hR1 hR2 hdir hsyn
  obtain ⟨t00, t10, t20⟩ := HT.out.three
  obtain ⟨u00, u10, u20⟩ := HU.out.three
  go_enter Try.func17, Try.ntmps17
  go_wp2_with fail
  rw [HW.out]
  go_wp2_with fail
  refine (HDD.out W0 (Below.refl _ _)).mono ?_
  rintro e w1 ⟨rfl, hb1⟩
  obtain ⟨t01, t11, t21⟩ := (HT.out.next hb1).three
  obtain ⟨u01, u11, u21⟩ := (HU.out.next hb1).three
  go_wp2_with fail
  refine (HSS.out w1 hb1).mono ?_
  rintro e w2 ⟨rfl, hb2⟩
  have hB2 := below_then hb1 hb2
  go_wp2_with fail
  clear t00 t10 t20 u00 u10 u20 t01 t11 t21 u01 u11 u21 HDD HSS
  go_loopw [5] (fun i wr => ∃ k : Nat, k ≤ n ∧ i = .int .i64 k ∧ Hid (∀ j, j < k → E j = true) ∧ Below W0.heap.size W0 wr) (fun i _ => n - (intOf i).toNat)
  case atStart => exact ⟨0, by omega, rfl, Lib.hid (fun j hj => by omega), hB2⟩
  case round =>
    obtain ⟨k, hk, rfl, HK, hbw⟩ := hrel
    obtain ⟨t0, t1, t2⟩ := (HT.out.next hbw).three
    obtain ⟨u0, u1, u2⟩ := (HU.out.next hbw).three
    clear t1 t2 u1 u2
    by_cases hlt : k < n
    · obtain ⟨b, off, rfl, hbb, hcc⟩ := HA.out (by omega)
      obtain ⟨b', off', rfl, hbb', hcc'⟩ := HB.out (by omega)
      obtain ⟨q0, q1⟩ := hcc k hlt
      obtain ⟨r0, r1⟩ := hcc' k hlt
      have hb0 := hal.trans (hbw.mono hs0)
      have q0 := (hb0.cell (p := ⟨b, off + k * 2, none⟩) hbb).trans q0
      have q1 := (hb0.cell (p := ⟨b, off + k * 2 + 1, none⟩) hbb).trans q1
      have r0 := (hb0.cell (p := ⟨b', off' + k * 2, none⟩) hbb').trans r0
      have r1 := (hb0.cell (p := ⟨b', off' + k * 2 + 1, none⟩) hbb').trans r1
      have hkI : (k : Int) < (n : Int) := by omega
      have hne := HEE.out k hlt
      have HNX := Lib.hid (show E k = true → ∀ j, j < k + 1 → E j = true from fun h j hj => by
        by_cases hjk : j < k
        · exact HK.out j hjk
        · obtain rfl : j = k := by omega
          exact h)
      have HNO := Lib.hid (HR2.out k hlt)
      have hgd := guards_nd .neq
      clear hcc hcc' hb0 hbb hbb'
      generalize A1 k = p1 at *
      generalize A2 k = p2 at *
      generalize B1 k = p3 at *
      generalize B2 k = p4 at *
      generalize hek : E k = e at *
      clear hek
      cases e with
      | true =>
        have HN := Lib.hid (HNX.out rfl)
        clear HNX HNO
        simp only [Bool.not_true] at hne
        go_wp2_with fail
        go_quiet (fail)
        clear hne hgd
        go_wp2_with fail
        exact ⟨⟨k + 1, by omega, by go_num, HN, below_drewN hbw _⟩, by simp [intOf]; omega⟩
      | false =>
        have HN := Lib.hid (HNO.out rfl)
        clear HNX HNO
        simp only [Bool.not_false] at hne
        go_wp2_with fail
        go_quiet (fail)
        clear hne hgd
        go_wp2_with fail
        go_ret
        exact ⟨by rw [HN.out]; rfl, hal.trans ((below_drewN hbw _).mono hs0)⟩
    · have HN := Lib.hid (HR1.out (fun j hj => HK.out j (by omega)))
      go_wp2_with fail
      go_ret
      exact ⟨by rw [HN.out]; rfl, hal.trans (hbw.mono hs0)⟩
set_option maxHeartbeats 4000000 in
set_option maxRecDepth 100000 in
theorem rSame_any (p q : At) (f g : T) (w : World) (hf : Fss w w.heap.size p f) (hg : Fss w w.heap.size q g) :
    Calls Try.prog 17 #[fsV p f, fsV q g] w (BoolPost (decide (f = g)) w) := by
  have hal1 : Below w.heap.size w (w.alloc (.cells #[.slice p.an f.nodes.length p.cn, .slice p.ad f.dir.length p.cd, .slice p.ay f.syn.length p.cy] 25)) := (Below.refl _ _).alloc (Nat.le_refl _) _
  have hT1 := bk_new w 25 #[.slice p.an f.nodes.length p.cn, .slice p.ad f.dir.length p.cd, .slice p.ay f.syn.length p.cy]
  have e1 : (w.alloc (.cells #[.slice p.an f.nodes.length p.cn, .slice p.ad f.dir.length p.cd, .slice p.ay f.syn.length p.cy] 25)).heap.size = w.heap.size + 1 := by simp
  generalize hWa : w.alloc (.cells #[.slice p.an f.nodes.length p.cn, .slice p.ad f.dir.length p.cd, .slice p.ay f.syn.length p.cy] 25) = Wa at *
  have hal2 : Below Wa.heap.size Wa (Wa.alloc (.cells #[.slice q.an g.nodes.length q.cn, .slice q.ad g.dir.length q.cd, .slice q.ay g.syn.length q.cy] 25)) := (Below.refl _ _).alloc (Nat.le_refl _) _
  have hT2 := bk_new Wa 25 #[.slice q.an g.nodes.length q.cn, .slice q.ad g.dir.length q.cd, .slice q.ay g.syn.length q.cy]
  generalize hWc : Wa.alloc (.cells #[.slice q.an g.nodes.length q.cn, .slice q.ad g.dir.length q.cd, .slice q.ay g.syn.length q.cy] 25) = W0 at *
  have hal : Below w.heap.size w W0 := hal1.trans (hal2.mono hal1.size)
  have HW := Lib.hid (show (w.alloc (.cells #[.slice p.an f.nodes.length p.cn, .slice p.ad f.dir.length p.cd, .slice p.ay f.syn.length p.cy] 25)).alloc (.cells #[.slice q.an g.nodes.length q.cn, .slice q.ad g.dir.length q.cd, .slice q.ay g.syn.length q.cy] 25) = W0 by rw [hWa, hWc])
  have HT := Lib.hid (hT1.next hal2)
  rw [e1] at hT2
  have HU := Lib.hid hT2
  have hs0 := hal.size
  have HF := Lib.hid (hf.next hal)
  have HG := Lib.hid (hg.next hal)
  have HDD := Lib.hid (fun W (hb : Below W0.heap.size W0 W) => esame_any p.ad q.ad p.cd q.cd f.dir g.dir W W.heap.size (HF.out.next hb).dir (HG.out.next hb).dir (by have := hf.dcap.1; have := hf.dcap.2.1; unfold maxLen at *; omega))
  have HSS := Lib.hid (fun W (hb : Below W0.heap.size W0 W) => esame_any p.ay q.ay p.cy q.cy f.syn g.syn W W.heap.size (HF.out.next hb).syn (HG.out.next hb).syn (by have := hf.scap.1; have := hf.scap.2.1; unfold maxLen at *; omega))
  have HDW := Lib.hid (fun W (hb : Below w.heap.size w W) => esame_any p.ad q.ad p.cd q.cd f.dir g.dir W W.heap.size (hf.next hb).dir (hg.next hb).dir (by have := hf.dcap.1; have := hf.dcap.2.1; unfold maxLen at *; omega))
  have HSW := Lib.hid (fun W (hb : Below w.heap.size w W) => esame_any p.ay q.ay p.cy q.cy f.syn g.syn W W.heap.size (hf.next hb).syn (hg.next hb).syn (by have := hf.scap.1; have := hf.scap.2.1; unfold maxLen at *; omega))
  have HNF := Lib.hid hf.nds
  have HNG := Lib.hid hg.nds
  have HLM := Lib.hid (show f.nodes.length ≤ 9223372036854775807 by have := hf.ncap.1; have := hf.ncap.2.1; unfold maxLen at *; omega)
  have HEQ := Lib.hid (show ∀ b : Bool, ((f.nodes.length : Int) != (g.nodes.length : Int)) = true ∨ decide (f.dir = g.dir) = false ∨ decide (f.syn = g.syn) = false → decide (f = g) = false from by
    intro b h
    refine decide_eq_false (fun e => ?_)
    subst e
    rcases h with h | h | h <;> simp at h)
  have HEQ2 := Lib.hid (show decide (f.dir = g.dir) = true → decide (f.syn = g.syn) = true → (f.nodes = g.nodes → decide (f = g) = true) ∧ (¬ f.nodes = g.nodes → decide (f = g) = false) from by
    intro h1 h2
    have h1 := of_decide_eq_true h1
    have h2 := of_decide_eq_true h2
    constructor
    · intro h3
      cases f; cases g; simp_all
    · intro h3
      exact decide_eq_false (fun e => h3 (by rw [e])))
  obtain ⟨pan, pcn, pad, pcd, pay, pcy⟩ := p
  obtain ⟨qan, qcn, qad, qcd, qay, qcy⟩ := q
  unfold fsV at *
  simp only at *
  generalize decide (f = g) = R at *
  generalize decide (f.dir = g.dir) = B1 at *
  generalize decide (f.syn = g.syn) = B2 at *
  clear hWa hWc hal1 hal2 hT1 hT2 e1 hf hg
  have t0 : ∀ W, Below W0.heap.size W0 W → W.cell? ⟨w.heap.size, 0, none⟩ = some (.slice pan f.nodes.length pcn) := fun W hb => (HT.out.next hb).three.1
  have t1 : ∀ W, Below W0.heap.size W0 W → W.cell? ⟨w.heap.size, 1, none⟩ = some (.slice pad f.dir.length pcd) := fun W hb => (HT.out.next hb).three.2.1
  have t2 : ∀ W, Below W0.heap.size W0 W → W.cell? ⟨w.heap.size, 2, none⟩ = some (.slice pay f.syn.length pcy) := fun W hb => (HT.out.next hb).three.2.2
  have u0 : ∀ W, Below W0.heap.size W0 W → W.cell? ⟨w.heap.size + 1, 0, none⟩ = some (.slice qan g.nodes.length qcn) := fun W hb => (HU.out.next hb).three.1
  have u1 : ∀ W, Below W0.heap.size W0 W → W.cell? ⟨w.heap.size + 1, 1, none⟩ = some (.slice qad g.dir.length qcd) := fun W hb => (HU.out.next hb).three.2.1
  have u2 : ∀ W, Below W0.heap.size W0 W → W.cell? ⟨w.heap.size + 1, 2, none⟩ = some (.slice qay g.syn.length qcy) := fun W hb => (HU.out.next hb).three.2.2
  have t00 := t0 W0 (Below.refl _ _)
  have t10 := t1 W0 (Below.refl _ _)
  have t20 := t2 W0 (Below.refl _ _)
  have u00 := u0 W0 (Below.refl _ _)
  have u10 := u1 W0 (Below.refl _ _)
  have u20 := u2 W0 (Below.refl _ _)
  by_cases hlen : ((f.nodes.length : Int) != (g.nodes.length : Int)) = true
  · rw [HEQ.out true (Or.inl hlen)]
    go_enter Try.func17, Try.ntmps17
    go_wp2_with fail
    rw [HW.out]
    go_wp2_with fail
    go_ret
    exact ⟨rfl, hal⟩
  have hln : f.nodes.length = g.nodes.length := by
    simp at hlen
    omega
  have hlen : ((f.nodes.length : Int) != (g.nodes.length : Int)) = false := by simp [hln]
  have HNL := Lib.hid hln
  clear hln
  cases B1 with
  | false =>
    rw [HEQ.out true (Or.inr (Or.inl rfl))]
    clear HEQ HEQ2 HDW HSW
    go_enter Try.func17, Try.ntmps17
    go_wp2_with fail
    rw [HW.out]
    go_wp2_with fail
    refine (HDD.out W0 (Below.refl _ _)).mono ?_
    rintro e w1 ⟨rfl, hb1⟩
    go_wp2_with fail
    go_ret
    exact ⟨rfl, hal.trans (hb1.mono hs0)⟩
  | true =>
    cases B2 with
    | false =>
      rw [HEQ.out true (Or.inr (Or.inr rfl))]
      clear HEQ HEQ2 HDW HSW
      go_enter Try.func17, Try.ntmps17
      go_wp2_with fail
      rw [HW.out]
      go_wp2_with fail
      refine (HDD.out W0 (Below.refl _ _)).mono ?_
      rintro e w1 ⟨rfl, hb1⟩
      have t21 := t2 w1 hb1
      have u21 := u2 w1 hb1
      go_wp2_with fail
      refine (HSS.out w1 hb1).mono ?_
      rintro e w2 ⟨rfl, hb2⟩
      have hB2 := below_then hb1 hb2
      go_wp2_with fail
      go_ret
      exact ⟨rfl, hal.trans (hB2.mono hs0)⟩
    | true =>
      have HE := HEQ2.out rfl rfl
      rw [← HNL.out]
      refine rSame_core pan pad pay qan qad qay pcn pcd pcy qcn qcd qcy f.nodes.length _ _ _ _ (fun k => str (f.nodes.getD k nulN).live) (fun k => str (f.nodes.getD k nulN).syn) (fun k => str (g.nodes.getD k nulN).live) (fun k => str (g.nodes.getD k nulN).syn) (fun k => decide (f.nodes.getD k nulN = g.nodes.getD k nulN)) R w HLM.out ?_ ?_ ?_ HDW.out HSW.out ?_ ?_
      · intro hne
        obtain ⟨b, off, e, hb, hc⟩ := HNF.out (fun e => hne (by rw [e]; rfl))
        exact ⟨b, off, e, hb, hc⟩
      · intro hne
        obtain ⟨b, off, e, hb, hc⟩ := HNG.out (fun e => hne (by rw [HNL.out, e]; rfl))
        exact ⟨b, off, e, hb, fun k hk => hc k (by rw [← HNL.out]; exact hk)⟩
      · intro k _ W
        have := nd_neq W (f.nodes.getD k nulN) (g.nodes.getD k nulN)
        unfold ndV at this
        rw [this, ← decide_not]
      · intro hall
        refine HE.1 (List.ext_getElem HNL.out (fun i h1 h2 => ?_))
        have := of_decide_eq_true (hall i h1)
        simpa [List.getD, h1, h2] using this
      · intro k hk hn
        exact HE.2 (fun e => (of_decide_eq_false hn) (by rw [e]))
end Go.Proofs.Ytmjcdjekakaigaa.Fs
