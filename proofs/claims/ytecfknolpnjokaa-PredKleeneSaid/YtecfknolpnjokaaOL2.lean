/- The law PruneSound. -/
import Derived.Test.YtecfknolpnjokaaORows
import Derived.Test.YtecfknolpnjokaaOPlain4
import Derived.Test.YtecfknolpnjokaaOB
import Derived.Test.YtecfknolpnjokaaOR5
import Derived.Test.YtecfknolpnjokaaSW2
import Derived.Test.YtecfknolpnjokaaBlW6
namespace Go.Proofs.Ytecfknolpnjokaa
open Go.RowKit
set_option linter.unusedVariables false

theorem fag_fxl (f : Bl.F) : (fxl f).toArray = #[.int .u64 (f 0 : Nat), .int .u64 (f 1 : Nat), .int .u64 (f 2 : Nat), .int .u64 (f 3 : Nat)] := rfl

theorem chkL_lt (k : Int) : ∀ l : List C.Cl, C.chkL k l < 9
  | [] => by unfold C.chkL; omega
  | c :: l => by
    unfold C.chkL
    have := O.cellE_lt k c
    split
    · omega
    · exact chkL_lt k l
theorem chk_lt (k : Int) (l : List C.Cl) : C.chk k l < 9 := by
  unfold C.chk
  have := chkL_lt k l
  (repeat' split) <;> omega
theorem cRow_at {B : Nat} {xs : List C.Cl} {a : Option Addr} {n c : Nat} {w : World} (h : CRow B xs (.slice a n c) w) : Cls w w.heap.size a xs := by
  obtain ⟨a', c', e, h2, _⟩ := cRow_cls h
  have : a = a' := by injection e
  subst this; exact h2
def SX (x : S.St) : Obj := .cells (sx x).toArray 40
def FX (f : Bl.F) : Obj := .cells (fxl f).toArray 43
theorem apart_symm {v v' : Value} (h : Apart v v') : Apart v' v := by
  unfold Apart at *
  rcases h with h | h
  · cases hv : v.ownBlock with
    | none => exact Or.inl rfl
    | some g => right; rw [h]; simp
  · exact Or.inr (fun e => h e.symm)
theorem apart_keep {u v v' : Value} (h : Apart u v) (e : v.ownBlock = v'.ownBlock) : Apart u v' := by unfold Apart at *; rwa [← e]
theorem apart_new {w : World} {B n sz : Nat} {t : TypeId} {xs : List Value} {v v' : Value} (h : w.ownsRow B t sz v n xs) (e : v'.ownBlock = some w.heap.size) : Apart v v' := by
  right; rw [e]
  intro e2
  have := (h.lt w.heap.size e2.symm).2
  omega
theorem apart_base {w w' : World} {B n sz B' n' sz' : Nat} {t t' : TypeId} {xs xs' : List Value} {v v' : Value} (h : w.ownsRow B t sz v n xs) (h' : w'.ownsRow B' t' sz' v' n' xs') (hB : w.heap.size ≤ B') : Apart v v' := by
  cases hv : v'.ownBlock with
  | none => exact Or.inl hv
  | some g =>
    right; rw [hv]
    intro e2
    have h1 := (h.lt g e2.symm).2
    have h2 := (h'.lt g hv).1
    omega
theorem SRow.below_ {B : Nat} {xs : List S.St} {v : Value} {w w' : World} (h : SRow B xs v w) (hb : Below w.heap.size w w') : SRow B xs v w' := row_below h hb
theorem FRow.below_ {B : Nat} {xs : List Bl.F} {v : Value} {w w' : World} (h : FRow B xs v w) (hb : Below w.heap.size w w') : FRow B xs v w' := row_below h hb

set_option maxHeartbeats 8000000 in
set_option maxRecDepth 100000 in
theorem pruneSound_walk (w : World) (ap : Option Addr) (cp : Nat) (p : List O.Cd) (hpm : p.length ≤ maxLen) (hpq : p.length ≤ cp ∧ cp ≤ maxLen ∧ (ap = none → cp = 0)) (hpx : ∀ x ∈ p, dOk x) (hpu : Cds w w.heap.size ap p)
    (ka : Option Addr) (kcap : Nat) (ks : List Int) (hkm : ks.length ≤ maxLen) (hkq : ks.length ≤ kcap ∧ kcap ≤ maxLen ∧ (ka = none → kcap = 0)) (hk64 : ∀ x ∈ ks, -9223372036854775808 ≤ x ∧ x ≤ 9223372036854775807) (hku : Ints w w.heap.size ka ks)
    (a : Option Addr) (cap : Nat) (rows : List (List C.Cl)) (hm : rows.length ≤ maxLen) (hq : rows.length ≤ cap ∧ cap ≤ maxLen ∧ (a = none → cap = 0)) (hu : Rws w w.heap.size a rows) (hbd : p.length + ks.length + rows.length ≤ 1048576) :
    Calls Try.prog 5 #[.slice ap p.length cp, .slice ka ks.length kcap, .slice a rows.length cap] w (BoolPost true w) := by
  have HRW := Lib.hid (fun W (hb : Below w.heap.size w W) i (hi : i < rows.length) => show ∃ b off ai ci, a = some ⟨b, off, none⟩ ∧ W.cell? ⟨b, off + i, none⟩ = some (.slice ai (rows.getD i []).length ci) ∧ (rows.getD i []).length ≤ maxLen ∧ (∀ x ∈ rows.getD i [], cOk x) ∧ Cls W W.heap.size ai (rows.getD i []) by
    obtain ⟨b, off, e, _, hc⟩ := (hu.below hb) (by intro e; rw [e] at hi; simp at hi)
    obtain ⟨ai, ci, c1, c2, c3, c4⟩ := hc i hi
    exact ⟨b, off, ai, ci, e, c1, c2, c3, c4.mono hb.size⟩)
  have HKW := Lib.hid (fun W (hb : Below w.heap.size w W) i (hi : i < ks.length) => show ∃ b off, ka = some ⟨b, off, none⟩ ∧ W.cell? ⟨b, off + i, none⟩ = some (.int .i64 (ks.getD i 0)) by
    obtain ⟨b, off, e, _, hc⟩ := (hku.next at1_firm hb) (by intro e; rw [e] at hi; simp at hi)
    have := hc i hi
    unfold at1 at this
    rw [Nat.mul_one] at this
    exact ⟨b, off, e, this⟩)
  have HPR := Lib.hid (fun W (hb : Below w.heap.size w W) sa sc fa fc (hs : Sts W W.heap.size sa (O.kn rows ks.length)) (hsx : ∀ x ∈ O.kn rows ks.length, sOk x) (hf : Fls W W.heap.size fa (O.fl rows ks.length)) (hfx : ∀ x ∈ O.fl rows ks.length, Bl.fOk x) =>
    prune_any ap cp p ka kcap ks sa sc (O.kn rows ks.length) fa fc (O.fl rows ks.length) W hpm hpx (hpu.next at5_firm hb) hkm (hku.next at1_firm hb) (by rw [O.kn_length]; exact hkm) hsx hs (by rw [O.fl_length]; exact hkm) hfx hf)
  have HAS := Lib.hid (fun W (hb : Below w.heap.size w W) ai ci (row : List C.Cl) (h1 : row.length ≤ maxLen) (h2 : ∀ x ∈ row, cOk x) (h3 : Cls W W.heap.size ai row) =>
    ask_any ap cp p ka kcap ks ai ci row W hpm hpx (hpu.next at5_firm hb) hkm (hku.next at1_firm hb) h1 h2 h3)
  have HSND := Lib.hid (fun hchk hlen i hi => O.sound_row p ks rows hchk hlen i hi)
  have HPL := Lib.hid (O.prune_lt p ks (O.kn rows ks.length) (O.fl rows ks.length))
  have HPB := Lib.hid (O.prune_bad p ks (O.kn rows ks.length) (O.fl rows ks.length))
  have HAL := Lib.hid (fun (row : List C.Cl) => show (O.askR p ks row).2 < 4294967296 by
    have h1 := O.check_lt p ks
    have h2 := rowE_lt ks row
    unfold O.askR
    by_cases q1 : O.check p ks ≠ 0
    · rw [if_pos q1]; show O.check p ks < _; omega
    rw [if_neg q1]
    by_cases q2 : row.length ≠ ks.length
    · rw [if_pos q2]; show 1 < 4294967296; omega
    rw [if_neg q2]
    by_cases q3 : O.rowE ks row ≠ 0
    · rw [if_pos q3]; show O.rowE ks row < _; omega
    rw [if_neg q3]; show 0 < 4294967296; omega)
  have hcc : ∀ c, (O.colOf rows c).length = rows.length := fun c => by simp [O.colOf]
  have hcg : ∀ c i, i < rows.length → (O.colOf rows c).getD i C.null = (rows.getD i []).getD c C.null := fun c i hi => by simp [O.colOf, List.getD, hi]
  have HCX := Lib.hid (fun W (hb : Below w.heap.size w W) c => show ∀ x ∈ O.colOf rows c, cOk x by
    intro x hx
    obtain ⟨r, hr, rfl⟩ := List.mem_map.1 hx
    obtain ⟨i, hi, rfl⟩ := List.getElem_of_mem hr
    obtain ⟨b, off, ai, ci, _, _, _, h3, _⟩ := HRW.out W hb i hi
    rw [show rows.getD i [] = rows[i] by simp [List.getD, hi]] at h3
    by_cases hcl : c < (rows[i]).length
    · rw [show (rows[i]).getD c C.null = (rows[i])[c] by simp [List.getD, hcl]]
      exact h3 _ (List.getElem_mem hcl)
    · rw [show (rows[i]).getD c C.null = C.null by simp only [List.getD]; rw [List.getElem?_eq_none (by omega)]; rfl]
      exact cOk_null)
  have HCC := Lib.hid hcc
  have HCG := Lib.hid hcg
  have HKN0 := Lib.hid (show O.kn rows 0 = [] from rfl)
  have HFL0 := Lib.hid (show O.fl rows 0 = [] from rfl)
  have HKNS := Lib.hid (fun c => O.kn_succ rows c)
  have HFLS := Lib.hid (fun c => O.fl_succ rows c)
  have HKNL := Lib.hid (fun c => O.kn_length rows c)
  have HFLL := Lib.hid (fun c => O.fl_length rows c)
  have hself := Below.refl w.heap.size w
  have HKNX := Lib.hid (fun (c : Nat) (hz : ∀ j, j < c → C.chk (ks.getD j 0) (O.colOf rows j) = 0) => show ∀ x ∈ O.kn rows c, sOk x by
    intro x hx
    obtain ⟨j, hj, rfl⟩ := List.mem_map.1 hx
    have hjc := List.mem_range.1 hj
    have ho := S.known_ok (hz j hjc)
    have l1 := C.cell_ok ho.le
    have l2 := C.cell_ok ho.me
    have hxx := HCX.out w hself j
    have r0 := ho.r0
    have r1 := ho.r1
    have n0 := ho.n0
    have n1 := ho.n1
    have cellok : ∀ c : C.Cl, (c = C.null ∨ c ∈ O.colOf rows j) → cOk c := fun c h => by rcases h with rfl | h; exact cOk_null; exact hxx c h
    have hb2 : (S.known (O.colOf rows j)).least = C.null ∨ (S.known (O.colOf rows j)).least ∈ O.colOf rows j := by
      rcases ho.st with ⟨_, e, _⟩ | ⟨hlt, hk, _⟩
      · exact Or.inl e
      · right
        refine (S.bound_in (fun e => ?_)).1.1
        have : (S.known (O.colOf rows j)).nulls = (S.known (O.colOf rows j)).rows := by
          show ((O.colOf rows j).length : Int) - ((C.dense (O.colOf rows j)).length : Int) = ((O.colOf rows j).length : Int)
          rw [e]; simp
        omega
    have hb3 : (S.known (O.colOf rows j)).most = C.null ∨ (S.known (O.colOf rows j)).most ∈ O.colOf rows j := by
      rcases ho.st with ⟨_, _, e⟩ | ⟨hlt, _, hk⟩
      · exact Or.inl e
      · right
        refine (S.bound_in (fun e => ?_)).2.1
        have : (S.known (O.colOf rows j)).nulls = (S.known (O.colOf rows j)).rows := by
          show ((O.colOf rows j).length : Int) - ((C.dense (O.colOf rows j)).length : Int) = ((O.colOf rows j).length : Int)
          rw [e]; simp
        omega
    exact ⟨by omega, by omega, cellok _ hb2, cellok _ hb3⟩)
  have HFLX := Lib.hid (fun (c : Nat) => show ∀ x ∈ O.fl rows c, Bl.fOk x by
    intro x hx
    obtain ⟨j, hj, rfl⟩ := List.mem_map.1 hx
    exact Bl.fil_ok Bl.none_ok _)
  have HHM := Lib.hid (fun s t (hs : s < 8) (ht : t ≤ 2) W => hasMay_any s t W hs ht)
  unfold maxLen at hm hkm
  clear hpx hpu hku hu hk64 hpm hpq hkq hq hcc hcg
  go_enter Try.func5, Try.ntmps5
  go_wp2_with fail
  refine (predBegun_any _).mono ?_
  rintro e w1 ⟨rfl, hb1⟩
  go_wp2_with fail
  go_loopw [7, 8, 9] (fun v7 v8 v9 wr => ∃ c : Nat, c ≤ ks.length ∧ v9 = .int .i64 c ∧ SRow w.heap.size (O.kn rows c) v7 wr ∧ FRow w.heap.size (O.fl rows c) v8 wr ∧ Apart v7 v8 ∧ Apart v8 v7 ∧ Below w.heap.size w wr ∧ Hid (∀ j, j < c → C.chk (ks.getD j 0) (O.colOf rows j) = 0) ∧ Hid (0 < c → ∀ i, i < rows.length → (rows.getD i []).length = ks.length)) (fun _ _ v9 _ => ks.length - (intOf v9).toNat)
  case atStart => exact ⟨0, by omega, rfl, by rw [HKN0.out]; exact ⟨rfl, Or.inl ⟨rfl, rfl⟩⟩, by rw [HFL0.out]; exact ⟨rfl, Or.inl ⟨rfl, rfl⟩⟩, Or.inl rfl, Or.inl rfl, hb1, Lib.hid (fun j hj => by omega), Lib.hid (fun h => by omega)⟩
  case round =>
    rename World => wq
    obtain ⟨c, hc, rfl, hsr, hfr, hap, hap2, hb, HZ, HL⟩ := hrel
    by_cases hlt : c < ks.length
    · have hcI : (c : Int) < (ks.length : Int) := by omega
      have hws := hb.size
      have hsl := HCC.out c
      go_wp2_with fail
      go_loopw [10, 11] (fun v10 v11 wk => ∃ i : Nat, i ≤ rows.length ∧ v11 = .int .i64 i ∧ CRow wq.heap.size ((O.colOf rows c).take i) v10 wk ∧ Below wq.heap.size wq wk ∧ Hid (∀ j, j < i → (rows.getD j []).length = ks.length)) (fun _ v11 _ => rows.length - (intOf v11).toNat)
      case atStart => exact ⟨0, by omega, rfl, cnilRow _ _, Below.refl _ _, Lib.hid (fun j hj => by omega)⟩
      case round =>
        rename World => wk
        obtain ⟨i, hi, rfl, hlr, hbk, HLI⟩ := hrel
        by_cases hli : i < rows.length
        · have hiI : (i : Int) < (rows.length : Int) := by omega
          have hbw := below_then hb hbk
          obtain ⟨rb, roff, ai, ci, rfl, r0, hrm, hrx, hru⟩ := HRW.out wk hbw i hli
          by_cases hlen : ¬ (rows.getD i []).length = ks.length
          · have g1 : (((rows.getD i []).length : Int) != (ks.length : Int)) = true := by rw [bne_iff_ne]; omega
            generalize (rows.getD i []).length = rl at *
            go_wp2_with fail
            go_ret
            exact ⟨rfl, hbw⟩
          · have hlen : (rows.getD i []).length = ks.length := Classical.not_not.1 hlen
            have hgi := HCG.out c i hli
            have hcl : c < (rows.getD i []).length := by omega
            obtain ⟨cb, coff, rfl, hcb, hcells⟩ := hru (by intro e; rw [e] at hcl; simp at hcl)
            obtain ⟨z0, z1, z2⟩ := hcells c hcl
            have hts := ctake_succ (O.colOf rows c) i (by omega)
            rw [hgi] at hts
            have HLI2 := Lib.hid (fun j (hj : j < i + 1) => show (rows.getD j []).length = ks.length by
              by_cases hji : j < i
              · exact HLI.out j hji
              · have : j = i := by omega
                subst this; exact hlen)
            generalize (rows.getD i []).getD c C.null = x at *
            obtain ⟨xk, xn, xt⟩ := x
            simp only at z0 z1 z2
            have hcI2 : (c : Int) < ((rows.getD i []).length : Int) := by omega
            have g1 : (((rows.getD i []).length : Int) != (ks.length : Int)) = false := by rw [bne_eq_false_iff_eq]; omega
            have hll : ((O.colOf rows c).take i).length ≤ i := by rw [List.length_take]; omega
            have hlb : (((O.colOf rows c).take i).length + 1) * 32 ≤ 140737488355328 := by omega
            have HTS := Lib.hid hts
            have HROW := Lib.hid hlr
            generalize (rows.getD i []).length = rl at *
            have hb5 : wq.heap.size ≤ (wk.alloc (.cells #[.int .i64 xk, .int .u64 (xn : Int), .string (str xt)] 38)).heap.size := by have := hbk.size; simp; omega
            generalize hX : str xt = X at *
            have HX := Lib.hid hX
            clear hX hru hcells hrx hlen hts hgi hll HLI hlr
            go_wp2_with (at_builtin; refine wpList_append_onec rfl (.tmp 41) (.tmp 49) rfl wq.heap.size _ ((O.colOf rows c).take i) rfl (HROW.out.alloc_ _) wk.heap.size ⟨xk, xn, xt⟩ rfl (World.cell?_alloc_new _ _ _ _) (World.cell?_alloc_new _ _ _ _) (by rw [HX.out]; exact World.cell?_alloc_new _ _ _ _) hlb hb5 ?_)
            intro v' w5 hr5 hb5w _
            go_wp2_with fail
            exact ⟨⟨i + 1, by omega, by go_num, by rw [HTS.out]; exact hr5, (hbk.alloc hbk.size _).trans hb5w, HLI2⟩, by simp [intOf]; omega⟩
        · obtain rfl : i = rows.length := by omega
          have hbw := below_then hb hbk
          have htk : (O.colOf rows c).take rows.length = O.colOf rows c := by rw [← hsl]; exact List.take_length
          rw [htk] at hlr
          have hsk := hsr.below_ hbk
          have hfk := hfr.below_ hbk
          obtain ⟨la, lc, rfl, hcls, hlq⟩ := cRow_cls hlr
          rw [hsl] at hlr ⊢
          have hapl : Apart u7 (.slice la rows.length lc) := apart_base hsr hlr (Nat.le_refl _)
          obtain ⟨kb, koff, rfl, k0⟩ := HKW.out wk hbw c hlt
          have hof := sof_any (ks.getD c 0) la lc (O.colOf rows c) wk (by rw [hsl]; unfold maxLen; omega) (HCX.out wk hbw c) hcls
          rw [hsl] at hof
          have HBO := Lib.hid (fun W (hb2 : Below w.heap.size w W) (hcl : Cls W W.heap.size la (O.colOf rows c)) => show Calls Try.prog 16 #[.slice la rows.length lc] W (FilPost (Bl.fil Bl.none_ (O.colOf rows c)) W) by
            have h := of_any la lc (O.colOf rows c) W (by rw [hsl]; unfold maxLen; omega) (HCX.out W hb2 c) hcl
            rwa [hsl] at h)
          unfold ofR at hof
          obtain ⟨K, hK⟩ : ∃ K, K = ks.getD c 0 := ⟨_, rfl⟩
          rw [← hK] at k0 hof
          have HKD := Lib.hid hK
          clear hK
          by_cases hz : C.chk K (O.colOf rows c) ≠ 0
          · rw [if_pos hz] at hof
            have hchl := chk_lt K (O.colOf rows c)
            generalize C.chk K (O.colOf rows c) = er at *
            have g1 : ((er : Int) != 0) = true := by rw [bne_iff_ne]; omega
            have HOF := Lib.hid (show Calls Try.prog 15 #[.int .i64 K, .slice la rows.length lc] wk (fun e w' => e = .returned (.tuple #[.agg #[.int .i64 0, .int .i64 0, .int .i64 0, .int .u64 0, .string ⟨#[]⟩, .int .i64 0, .int .u64 0, .string ⟨#[]⟩], .int .i64 (er : Nat)]) ∧ Below wk.heap.size wk w') from hof)
            clear hof hz hapl hsk hfk hlr hcls hlq
            go_wp2_with fail
            refine HOF.out.mono ?_
            rintro e w5 ⟨rfl, hb5⟩
            go_wp2_with fail
            go_ret
            exact ⟨rfl, (below_then hbw hb5).alloc (below_then hbw hb5).size _⟩
          · rw [if_neg hz] at hof
            have hz0 : C.chk K (O.colOf rows c) = 0 := by omega
            have HZ2 := Lib.hid (fun j (hj : j < c + 1) => show C.chk (ks.getD j 0) (O.colOf rows j) = 0 by
              by_cases hjc : j < c
              · exact HZ.out j hjc
              · have : j = c := by omega
                subst this; rw [← HKD.out]; exact hz0)
            have HL2 := Lib.hid (fun (_ : 0 < c + 1) i (hi : i < rows.length) => HLI.out i hi)
            obtain ⟨x, hx⟩ : ∃ x, x = S.known (O.colOf rows c) := ⟨_, rfl⟩
            obtain ⟨f, hf⟩ : ∃ f, f = Bl.fil Bl.none_ (O.colOf rows c) := ⟨_, rfl⟩
            rw [← hx] at hof
            rw [← hf] at HBO
            have HKS := Lib.hid (show O.kn rows (c + 1) = O.kn rows c ++ [x] by rw [HKNS.out, hx])
            have HFS := Lib.hid (show O.fl rows (c + 1) = O.fl rows c ++ [f] by rw [HFLS.out, hf])
            have HOF := Lib.hid (show Calls Try.prog 15 #[.int .i64 K, .slice la rows.length lc] wk (fun e w' => e = .returned (.tuple #[.agg #[.int .i64 x.rows, .int .i64 x.nulls, .int .i64 x.least.kind, .int .u64 (x.least.num : Int), .string (str x.least.txt), .int .i64 x.most.kind, .int .u64 (x.most.num : Int), .string (str x.most.txt)], .int .i64 0]) ∧ Below wk.heap.size wk w') from hof)
            have hknl := HKNL.out c
            have hfll := HFLL.out c
            clear hof hz hz0 hx hf hcls hlq HZ HL HLI
            go_wp2_with fail
            refine HOF.out.mono ?_
            rintro e w5 ⟨rfl, hb5⟩
            have hbw5 := below_then hbw hb5
            have bx : Below w5.heap.size w5 ((w5.alloc (SX x)).alloc (SX x)) := ((Below.refl _ _).alloc (Nat.le_refl _) _).alloc (by simp) _
            have hs7 : SRow w.heap.size (O.kn rows c) u7 ((w5.alloc (SX x)).alloc (SX x)) := (hsk.below_ hb5).below_ bx
            have hf7 : FRow w.heap.size (O.fl rows c) u8 ((w5.alloc (SX x)).alloc (SX x)) := (hfk.below_ hb5).below_ bx
            have hl7 : CRow wq.heap.size (O.colOf rows c) (.slice la rows.length lc) ((w5.alloc (SX x)).alloc (SX x)) := (hlr.below hb5).below bx
            have hbw7 := below_then hbw5 bx
            have hblk : ((w5.alloc (SX x)).alloc (SX x)).heap[w5.heap.size + 1]? = some (.cells (sx x).toArray 40 (0, 0)) := by
              have h := heap_alloc_new (w5.alloc (SX x)) (SX x)
              rw [show (w5.alloc (SX x)).heap.size = w5.heap.size + 1 by simp] at h
              exact h
            have hlb : ((O.kn rows c).length + 1) * 80 ≤ 140737488355328 := by rw [hknl]; omega
            have hlb2 : ((O.fl rows c).length + 1) * 32 ≤ 140737488355328 := by rw [hfll]; omega
            have HS7 := Lib.hid hs7
            have HF7 := Lib.hid hf7
            have HL7 := Lib.hid hl7
            have HBLK := Lib.hid hblk
            have HB7 := Lib.hid hbw7
            have hb7s : w.heap.size ≤ ((w5.alloc (SX x)).alloc (SX x)).heap.size := hbw7.size
            have o6 := (oct_new w5 (sx x)).cells
            clear hs7 hf7 hl7 hblk hbw7 bx hsk hfk hlr hb5 hknl hfll
            go_wp2_with (at_builtin; refine wpList_append_st rfl (.tmp 62) (.tmp 64) rfl w.heap.size _ (O.kn rows c) rfl HS7.out (w5.heap.size + 1) x rfl HBLK.out hlb hb7s ?_)
            intro v' w8 hs8 hb8 hg8 hat8
            have hbw8 := HB7.out.trans hb8
            have hf8 : FRow w.heap.size (O.fl rows c) u8 w8 := HF7.out.kept hg8 hap
            have hl8 : CRow wq.heap.size (O.colOf rows c) (.slice la rows.length lc) w8 := HL7.out.kept hg8 hapl
            have ap8 : Apart v' u8 := by
              rcases hat8 with h | h
              · exact apart_symm (apart_keep (apart_symm hap) h)
              · exact apart_symm (apart_new HF7.out (by rw [h]; simp))
            clear hg8 hb8 hat8 HS7 HF7 HL7 HBLK HB7 hb7s o6 hap hap2 hapl
            go_wp2_with fail
            refine (HBO.out _ hbw8 (cRow_at hl8)).mono ?_
            rintro e w9 ⟨rfl, hb9⟩
            have by_ : Below w9.heap.size w9 (w9.alloc (FX f)) := (Below.refl _ _).alloc (Nat.le_refl _) _
            have hs10 : SRow w.heap.size (O.kn rows c ++ [x]) v' (w9.alloc (FX f)) := (hs8.below_ hb9).below_ by_
            have hf10 : FRow w.heap.size (O.fl rows c) u8 (w9.alloc (FX f)) := (hf8.below_ hb9).below_ by_
            have hbw10 := below_then (below_then hbw8 hb9) by_
            have hb10s : w.heap.size ≤ (w9.alloc (FX f)).heap.size := hbw10.size
            have HF10 := Lib.hid hf10
            have HS10 := Lib.hid hs10
            have HBL2 := Lib.hid (show (w9.alloc (FX f)).heap[w9.heap.size]? = some (.cells (fxl f).toArray 43 (0, 0)) from heap_alloc_new w9 (FX f))
            clear hf10 hs10 hf8 hl8 hs8 by_
            go_wp2_with (at_builtin; refine wpList_append_fl rfl (.tmp 66) (.tmp 69) rfl w.heap.size _ (O.fl rows c) rfl HF10.out w9.heap.size f rfl HBL2.out hlb2 hb10s ?_)
            intro v'' w11 hf11 hb11 hg11 hat11
            have hs11 : SRow w.heap.size (O.kn rows c ++ [x]) v' w11 := HS10.out.kept hg11 (apart_symm ap8)
            have ap11 : Apart v' v'' := by
              rcases hat11 with h | h
              · exact apart_keep ap8 h
              · exact apart_new HS10.out (by rw [h]; simp)
            go_wp2_with fail
            exact ⟨⟨c + 1, by omega, by go_num, by rw [HKS.out]; exact hs11, by rw [HFS.out]; exact hf11, ap11, apart_symm ap11, hbw10.trans hb11, HZ2, HL2⟩, by simp [intOf]; omega⟩
    · obtain rfl : c = ks.length := by omega
      obtain ⟨sa, sc, rfl, hsts⟩ := hsr.sts
      obtain ⟨fa, fc, rfl, hfls⟩ := hfr.fls
      have hpr := HPR.out wq hb sa sc fa fc hsts (HKNX.out _ HZ.out) hfls (HFLX.out _)
      have hsd := HSND.out HZ.out HL.out
      have hpl := HPL.out
      have hpb := HPB.out
      rw [HKNL.out, HFLL.out] at hpr ⊢
      generalize O.pruneR p ks (O.kn rows ks.length) (O.fl rows ks.length) = P at *
      obtain ⟨set, er⟩ := P
      simp only at hsd hpl hpb
      have HPRC := Lib.hid hpr
      have HSD := Lib.hid hsd
      clear hpr hsd hsr hfr hsts hfls hap hap2 HZ HL HPL HPB HPR HSND
      go_wp2_with fail
      refine HPRC.out.mono ?_
      rintro e w5 ⟨rfl, hb5⟩
      have hbw5 := below_then hb hb5
      go_wp2_with fail
      go_loopw [16] (fun v16 wk => ∃ i : Nat, i ≤ rows.length ∧ v16 = .int .i64 i ∧ Below w.heap.size w wk) (fun v16 _ => rows.length - (intOf v16).toNat)
      case atStart => exact ⟨0, by omega, rfl, hbw5⟩
      case round =>
        rename World => wk
        obtain ⟨i, hi, rfl, hbk⟩ := hrel
        by_cases hli : i < rows.length
        · have hiI : (i : Int) < (rows.length : Int) := by omega
          obtain ⟨rb, roff, ai, ci, rfl, r0, hrm, hrx, hru⟩ := HRW.out wk hbk i hli
          have hask := HAS.out wk hbk ai ci _ hrm hrx hru
          have hs := HSD.out i hli
          have hal := HAL.out (rows.getD i [])
          generalize O.askR p ks (rows.getD i []) = A at *
          obtain ⟨t, g⟩ := A
          simp only at hs hal
          generalize (rows.getD i []).length = rl at *
          have HASK := Lib.hid hask
          clear hask hrx hru
          obtain ⟨hs1, ht⟩ := hs
          rcases hs1 with ⟨q1, q2⟩ | ⟨q1, q2, q3⟩
          · have hset := hpb (by omega)
            subst hset
            have g1 : ((g : Int) == 0) = false := by rw [beq_eq_false_iff_ne]; omega
            have g2 : ((er : Int) == 0) = false := by rw [beq_eq_false_iff_ne]; omega
            have g3 : (g == 0) = false := by rw [beq_eq_false_iff_ne]; omega
            have g4 : (er == 0) = false := by rw [beq_eq_false_iff_ne]; omega
            go_wp2_with fail
            refine HASK.out.mono ?_
            rintro e w6 ⟨rfl, hb6⟩
            go_wp2_with fail
            refine ⟨?_, by simp [intOf]; omega⟩
            (repeat apply Exists.intro)
            exact ⟨⟨i + 1, by omega, by go_num, below_then hbk hb6⟩, rfl⟩
          · subst q1
            subst q2
            have HH := Lib.hid (fun W => HHM.out set t hpl.1 ht W)
            rw [q3] at HH
            go_wp2_with fail
            refine HASK.out.mono ?_
            rintro e w6 ⟨rfl, hb6⟩
            go_wp2_with fail
            refine (HH.out _).mono ?_
            rintro e w7 ⟨rfl, rfl⟩
            go_wp2_with fail
            refine ⟨?_, by simp [intOf]; omega⟩
            (repeat apply Exists.intro)
            exact ⟨⟨i + 1, by omega, by go_num, below_then hbk hb6⟩, rfl⟩
        · by_cases he : er = 0
          · subst he
            go_wp2_with fail
            go_ret
            exact ⟨rfl, hbk⟩
          · have hset := hpb he
            subst hset
            have g2 : ((er : Int) == 0) = false := by rw [beq_eq_false_iff_ne]; omega
            have g4 : (er == 0) = false := by rw [beq_eq_false_iff_ne]; omega
            go_wp2_with fail
            go_ret
            exact ⟨rfl, hbk⟩
end Go.Proofs.Ytecfknolpnjokaa
