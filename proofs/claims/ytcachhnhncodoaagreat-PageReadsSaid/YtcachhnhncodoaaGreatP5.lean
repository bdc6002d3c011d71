/- TR1, TPut, ShelfSort, TW4, TR2, TW5, TAux, TR4, TR5, FPlain, FW1, FR1, BRow, VaryAll, FW2, FW3, FR2, WB. -/
import Derived.Laws.OwnMore
import Derived.Shelf.Sort.Plain
import Derived.Ground.Names2Prog
import Derived.Shelf.Slices.Clone
import Derived.Shelf.Slices.CompactS
import Derived.Shelf.Slices.In.SortNone
import Derived.Test.YtcachhnhncodoaaGreatProg
import Derived.Sort.OwnSorted
import Derived.Sort.Grow
import Derived.Lib.OwnBridge
import Derived.Maps.Own
import Derived.Maps.OwnOps
import Derived.Maps.OwnSet
import Derived.Maps.Views
import Derived.BigQuiet
import Derived.Lib.AppendStr
import Derived.Deep.QuietTactic
import Derived.Lib.Hide
import Derived.Test.YtcachhnhncodoaaGreatP4
namespace Go.Proofs.YtcachhnhncodoaaGreat
open Go.RowKit
set_option linter.unusedVariables false
set_option maxHeartbeats 1000000 in
set_option maxRecDepth 100000 in
theorem rcheck_any (a : Option Addr) (c : Nat) (l : List (List UInt8)) (w : World) (hm : l.length ≤ maxLen) (hu : Txts w w.heap.size a l) :
    Calls Tryz.prog 155 #[.slice a l.length c] w fun e w' => e = .returned (.int .i64 (bookR l : Nat)) ∧ ∃ d, w' = w.drewN d := by
  have HF := Lib.hid (many_any a c l w hm hu)
  have HU := Lib.hid hu
  by_cases hf : fitR l ≠ 0
  · have hf2 : fitR l = 2 := by
      unfold fitR at hf ⊢
      split
      · rfl
      · rename_i h; rw [if_neg h] at hf; exact absurd rfl hf
    have HR := Lib.hid (show bookR l = 2 by unfold bookR; rw [if_pos hf, hf2])
    rw [decide_eq_true hf] at HF
    clear hu hf hf2
    go_enter Tryz.func155, Tryz.ntmps155
    go_wp2_with fail
    refine (HF.out).mono ?_
    rintro e w1 ⟨rfl, rfl⟩
    go_wp2_with fail
    go_ret
    exact ⟨by rw [HR.out]; rfl, 0, rfl⟩
  have hf0 : fitR l = 0 := by omega
  rw [decide_eq_false hf] at HF
  have hfz : l.length ≤ 64 ∧ ∀ x ∈ l, x.length ≤ 16 := by
    unfold fitR at hf0
    rcases Classical.em (64 < l.length ∨ l.findIdx long < l.length) with hh | hh
    · rw [if_pos hh] at hf0; exact absurd hf0 (by decide)
    · constructor
      · rcases Nat.lt_or_ge 64 l.length with k | k
        · exact absurd (Or.inl k) hh
        · exact k
      · intro x hx
        rcases Nat.lt_or_ge 16 x.length with k | k
        · exact absurd (Or.inr (List.findIdx_lt_length_of_exists ⟨x, hx, by simp [long, k]⟩)) hh
        · exact k
  have hl := hfz.1
  have HLX := Lib.hid (fun j (hj : j < l.length) => hfz.2 _ (tgetD_mem l j hj))
  have HRB := Lib.hid (show bookR l = if rise l then 0 else 4 by unfold bookR; rw [if_neg hf])
  clear hf hf0 hu hfz
  go_enter Tryz.func155, Tryz.ntmps155
  go_wp2_with fail
  refine (HF.out).mono ?_
  rintro e w1 ⟨rfl, rfl⟩
  go_wp2_with fail
  go_loopw [3] (fun i wr => ∃ k : Nat, 1 ≤ k ∧ (k ≤ l.length ∨ k = 1) ∧ i = .int .i64 k ∧ Hid (Rise l k) ∧ Hid (∃ d, wr = w.drewN d)) (fun i _ => l.length + 1 - (intOf i).toNat)
  case atStart => exact ⟨1, by omega, Or.inr rfl, rfl, Lib.hid (fun i hi => absurd hi (by omega)), Lib.hid ⟨0, rfl⟩⟩
  case round =>
    obtain ⟨k, hk1, hk, rfl, HRI, HW⟩ := hrel
    by_cases hlt : k < l.length
    · obtain ⟨b, off, rfl, hb, hcc⟩ := HU.out (fun e => by rw [e] at hlt; simp at hlt)
      have ck : wr.cell? ⟨b, off + k, none⟩ = some (.string (str (l.getD k []))) := by
        obtain ⟨d, e⟩ := HW.out; rw [e]; exact hcc k hlt
      have cp : wr.cell? ⟨b, off + (k - 1), none⟩ = some (.string (str (l.getD (k - 1) []))) := by
        obtain ⟨d, e⟩ := HW.out; rw [e]; exact hcc (k - 1) (by omega)
      have HSU := Lib.hid (fun h => HRI.out.succ hk1 h)
      have HBD := Lib.hid (fun h => rise_bad (b := l) (i := k - 1) (by omega) h)
      rw [show k - 1 + 1 = k by omega] at HBD
      have hx1 := HLX.out k hlt
      have hx2 := HLX.out (k - 1) (by omega)
      have HTL := Lib.hid (fun W => tless_any (l.getD (k - 1) []) (l.getD k []) W (by unfold maxLen; omega) (by unfold maxLen; omega))
      generalize l.getD k [] = x at *
      generalize l.getD (k - 1) [] = y at *
      generalize str x = X at *
      generalize str y = Y at *
      have hi1 : IntKind.i64.wrap ((k : Int) - 1) = (k : Int) - 1 := by rw [IntKind.wrap_i64]; omega
      have hi2 : (0 : Int) ≤ (k : Int) - 1 := by omega
      have hi3 : ((k : Int) - 1).toNat = k - 1 := by omega
      have hi4 : (k : Int) - 1 < (l.length : Int) := by omega
      have hi5 : (k : Int) < (l.length : Int) := by omega
      have hi6 : (1 : Int) ≤ (k : Int) := by omega
      clear hcc
      by_cases hxy : y < x
      · rw [decide_eq_true hxy] at HTL
        have HN := Lib.hid (HSU.out hxy)
        clear hxy
        go_wp2_with fail
        go_quiet ((go_at_call 158; exact Calls.quiet_of (HTL.out _)))
        go_wp2_with fail
        exact ⟨⟨k + 1, by omega, Or.inl (by omega), by go_num, HN, by obtain ⟨d, e⟩ := HW.out; exact Lib.hid ⟨_, by rw [e, World.drewN_drewN]⟩⟩, by simp [intOf]; omega⟩
      · rw [decide_eq_false hxy] at HTL
        have HB4 := Lib.hid (show bookR l = 4 by rw [HRB.out, HBD.out hxy, if_neg (by simp)])
        clear hxy
        go_wp2_with fail
        go_quiet ((go_at_call 158; exact Calls.quiet_of (HTL.out _)))
        go_wp2_with fail
        go_ret
        obtain ⟨d, e⟩ := HW.out
        exact ⟨by rw [HB4.out]; rfl, _, by rw [e, World.drewN_drewN]⟩
    · have HB0 := Lib.hid (show bookR l = 0 by
        rw [HRB.out, if_pos]
        refine Rise.all ?_
        rcases hk with h | h
        · have e : k = l.length := by omega
          rw [← e]; exact HRI.out
        · intro i hi; omega)
      have hge : l.length ≤ k := by omega
      clear hk
      go_wp2_with fail
      go_ret
      exact ⟨by rw [HB0.out]; rfl, HW.out⟩
end Go.Proofs.YtcachhnhncodoaaGreat
namespace Go.Proofs.YtcachhnhncodoaaGreat
open Go.RowKit
set_option linter.unusedVariables false
def TextsPost (r : List (List UInt8) × Nat) (w : World) (e : Ending) (w' : World) : Prop :=
  ∃ a c, e = .returned (.tuple #[.slice a r.1.length c, .int .i64 r.2]) ∧ Txts w' w'.heap.size a r.1 ∧ Below w.heap.size w w'
theorem TextsPost.none {w w' : World} (er : Nat) (h : Below w.heap.size w w') : TextsPost ([], er) w (.returned (.tuple #[.slice none 0 0, .int .i64 er])) w' :=
  ⟨Option.none, 0, rfl, Txts.nil _ _ _, h⟩
theorem made_trow {w' : World} {g n B' : Nat} (h : w'.ownsRow B' 9 1 (.slice (some ⟨g, 0, none⟩) n n) n (madeCells (Value.string ByteArray.empty).cells (n * 1)).toList) : TRow B' (List.replicate n []) (.slice (some ⟨g, 0, none⟩) n n) w' := by
  unfold TRow
  rw [List.length_replicate]
  have e : tv (List.replicate n []) = (madeCells (Value.string ByteArray.empty).cells (n * 1)).toList := by
    apply List.ext_getElem
    · simp [madeCells, tv]
    · intro i h1 h2
      simp [madeCells, tv, Value.cells, Nat.mod_one]
      rfl
  rw [e]; exact h
theorem TRow.put {B : Nat} {xs : List (List UInt8)} {g n c : Nat} {w : World} (h : TRow B xs (.slice (some ⟨g, 0, none⟩) n c) w) (i : Nat) (x : List UInt8) : TRow B (xs.set i x) (.slice (some ⟨g, 0, none⟩) n c) (w.setCell ⟨g, i, none⟩ (.string (str x))) := by
  obtain ⟨a', c', e, _⟩ := tRow_txts h
  injection e with e1 e2 e3
  subst e2
  unfold TRow at *
  have := (h.stored i (.string (str x))).1
  rw [List.length_set]
  have e : tv (xs.set i x) = (tv xs).set i (.string (str x)) := by simp [tv, List.map_set]
  rw [e]; exact this
theorem TRow.txts {B : Nat} {xs : List (List UInt8)} {a : Option Addr} {n c : Nat} {w : World} (h : TRow B xs (.slice a n c) w) : Txts w w.heap.size a xs ∧ n = xs.length := by
  obtain ⟨a', c', e, hn, _⟩ := tRow_txts h
  injection e with e1 e2 e3
  rw [e1]; exact ⟨hn, e2⟩
end Go.Proofs.YtcachhnhncodoaaGreat
namespace Go.Proofs
open Go.Shelf
def Tryz.lays190_ren : Go.Shelf.Ren := ⟨fun | 190 => 204 | 125 => 209 | 258 => 208 | 128 => 219 | 129 => 106 | 302 => 210 | 303 => 211 | 304 => 212 | 305 => 213 | 306 => 214 | 307 => 215 | 308 => 216 | 309 => 217 | 310 => 218 | 333 => 220 | 329 => 221 | 330 => 222 | 334 => 223 | 335 => 224 | 336 => 225 | 344 => 226 | n => n, fun | 31 => 66 | 9 => 9 | 3 => 3 | 46 => 109 | 0 => 0 | 51 => 78 | 53 => 34 | 4 => 4 | 183 => 198 | 182 => 197 | 131 => 202 | 5 => 5 | 218 => 205 | 222 => 209 | 228 => 211 | 229 => 212 | n => n, fun | n => n⟩
theorem Tryz.lays190 : Go.Proofs.Lays.n190 Tryz.prog Tryz.lays190_ren := {
  mixed := by kernel_rfl
  f125 := Tryz.func209.trans (congrArg some (by kernel_rfl))
  f128 := Tryz.func219.trans (congrArg some (by kernel_rfl))
  f129 := Tryz.func106.trans (congrArg some (by kernel_rfl))
  f190 := Tryz.func204.trans (congrArg some (by kernel_rfl))
  f258 := Tryz.func208.trans (congrArg some (by kernel_rfl))
  f302 := Tryz.func210.trans (congrArg some (by kernel_rfl))
  f303 := Tryz.func211.trans (congrArg some (by kernel_rfl))
  f304 := Tryz.func212.trans (congrArg some (by kernel_rfl))
  f305 := Tryz.func213.trans (congrArg some (by kernel_rfl))
  f306 := Tryz.func214.trans (congrArg some (by kernel_rfl))
  f307 := Tryz.func215.trans (congrArg some (by kernel_rfl))
  f308 := Tryz.func216.trans (congrArg some (by kernel_rfl))
  f309 := Tryz.func217.trans (congrArg some (by kernel_rfl))
  f310 := Tryz.func218.trans (congrArg some (by kernel_rfl))
  f329 := Tryz.func221.trans (congrArg some (by kernel_rfl))
  f330 := Tryz.func222.trans (congrArg some (by kernel_rfl))
  f333 := Tryz.func220.trans (congrArg some (by kernel_rfl))
  f334 := Tryz.func223.trans (congrArg some (by kernel_rfl))
  f335 := Tryz.func224.trans (congrArg some (by kernel_rfl))
  f336 := Tryz.func225.trans (congrArg some (by kernel_rfl))
  f344 := Tryz.func226.trans (congrArg some (by kernel_rfl))
  t0 := Tryz.underlying0
  a0 := Tryz.isAgg0
  z0 := Tryz.sizeOf0
  v0 := Tryz.zeroValue0
  t3 := Tryz.underlying3
  a3 := Tryz.isAgg3
  z3 := Tryz.sizeOf3
  v3 := Tryz.zeroValue3
  t4 := Tryz.underlying4
  a4 := Tryz.isAgg4
  z4 := Tryz.sizeOf4
  v4 := Tryz.zeroValue4
  t5 := Tryz.underlying5
  a5 := Tryz.isAgg5
  z5 := Tryz.sizeOf5
  v5 := Tryz.zeroValue5
  t9 := Tryz.underlying9
  a9 := Tryz.isAgg9
  z9 := Tryz.sizeOf9
  v9 := Tryz.zeroValue9
  t31 := Tryz.underlying66
  a31 := Tryz.isAgg66
  z31 := Tryz.sizeOf66
  v31 := Tryz.zeroValue66
  t46 := Tryz.underlying109
  a46 := Tryz.isAgg109
  z46 := Tryz.sizeOf109
  v46 := Tryz.zeroValue109
  t51 := Tryz.underlying78
  a51 := Tryz.isAgg78
  z51 := Tryz.sizeOf78
  v51 := Tryz.zeroValue78
  t53 := Tryz.underlying34
  a53 := Tryz.isAgg34
  z53 := Tryz.sizeOf34
  v53 := Tryz.zeroValue34
  t131 := Tryz.underlying202
  a131 := Tryz.isAgg202
  z131 := Tryz.sizeOf202
  v131 := Tryz.zeroValue202
  t182 := Tryz.underlying197
  a182 := Tryz.isAgg197
  z182 := Tryz.sizeOf197
  v182 := Tryz.zeroValue197
  t183 := Tryz.underlying198
  a183 := Tryz.isAgg198
  z183 := Tryz.sizeOf198
  v183 := Tryz.zeroValue198
  t218 := Tryz.underlying205
  a218 := Tryz.isAgg205
  z218 := Tryz.sizeOf205
  v218 := Tryz.zeroValue205
  t222 := Tryz.underlying209
  a222 := Tryz.isAgg209
  z222 := Tryz.sizeOf209
  v222 := Tryz.zeroValue209
  t228 := Tryz.underlying211
  a228 := Tryz.isAgg211
  z228 := Tryz.sizeOf211
  v228 := Tryz.zeroValue211
  t229 := Tryz.underlying212
  a229 := Tryz.isAgg212
  z229 := Tryz.sizeOf212
  v229 := Tryz.zeroValue212 }
open Go.Sort Go.RowKit in
theorem Tryz.slices_Sort_string (blk off cap : Nat) (ss : List (List UInt8)) (w : World) (hH : Holds encStr w blk off ss.toArray) (hblk : blk < w.heap.size) (hsz : ss.length < 4611686018427387904) :
    Calls Tryz.prog 204 #[.slice (some ⟨blk, off, none⟩) ss.length cap] w fun e w' =>
      e = .returned (.tuple #[]) ∧ ∃ n os, w' = grow (putRow encStr (Sort.ahead w n) blk off (ss.mergeSort fun x y => decide (x ≤ y)).toArray) os := Any.slices_Sort_string Tryz.lays190 blk off cap ss w hH hblk hsz
def Tryz.laysNm216_ren : Go.Shelf.Ren := ⟨fun | 16 => 203 | n => n, fun | 24 => 66 | 9 => 9 | 4 => 4 | n => n, fun | n => n⟩
theorem Tryz.laysNm216 : Go.Proofs.Lays2.n16 Tryz.prog Tryz.laysNm216_ren := {
  mixed := by kernel_rfl
  f16 := Tryz.func203.trans (congrArg some (by kernel_rfl))
  t4 := Tryz.underlying4
  a4 := Tryz.isAgg4
  z4 := Tryz.sizeOf4
  v4 := Tryz.zeroValue4
  t9 := Tryz.underlying9
  a9 := Tryz.isAgg9
  z9 := Tryz.sizeOf9
  v9 := Tryz.zeroValue9
  t24 := Tryz.underlying66
  a24 := Tryz.isAgg66
  z24 := Tryz.sizeOf66
  v24 := Tryz.zeroValue66
  i9 := by kernel_rfl }
open Go.RowKit Go.Lib in
theorem Tryz.slices_Clone_string (b off n c : Nat) (zs : List ByteArray) (w : World) (hz : n ≤ zs.length) (hbig : n * 16 ≤ 140737488355328) (hc : ∀ j, j < zs.length → w.cell? ⟨b, off + j, none⟩ = some (.string (zs.getD j ByteArray.empty))) :
    Calls Tryz.prog 203 #[.slice (some ⟨b, off, none⟩) n c] w fun e w' => ∃ v', e = .returned v' ∧ w'.ownsRow w.heap.size 9 1 v' n ((zs.take n).map (Value.string)) ∧ v' ≠ .slice none 0 0 ∧ Below w.heap.size w w' := Any.slices_Clone_string Tryz.laysNm216 b off n c zs w hz hbig hc
open Go.RowKit Go.Lib in
theorem Tryz.slices_Clone_string_nil (n c : Nat) (w : World) :
    Calls Tryz.prog 203 #[.slice none n c] w fun e w' => e = .returned (.slice none 0 0) ∧ w' = w := Any.slices_Clone_string_nil Tryz.laysNm216 n c w
open Go.RowKit Go.Lib in
theorem Tryz.slices_Clone_string_zero (a : Addr) (c : Nat) (w : World) :
    Calls Tryz.prog 203 #[.slice (some a) 0 c] w fun e w' => ∃ v', e = .returned v' ∧ w'.ownsRow w.heap.size 9 1 v' 0 [] ∧ v' ≠ .slice none 0 0 ∧ Below w.heap.size w w' := Any.slices_Clone_string_zero Tryz.laysNm216 a c w
def Tryz.lays194_ren : Go.Shelf.Ren := ⟨fun | 194 => 205 | n => n, fun | 31 => 66 | 9 => 9 | 3 => 3 | 4 => 4 | 0 => 0 | n => n, fun | n => n⟩
theorem Tryz.lays194 : Go.Proofs.Lays.n194 Tryz.prog Tryz.lays194_ren := {
  mixed := by kernel_rfl
  f194 := Tryz.func205.trans (congrArg some (by kernel_rfl))
  t0 := Tryz.underlying0
  a0 := Tryz.isAgg0
  z0 := Tryz.sizeOf0
  v0 := Tryz.zeroValue0
  t3 := Tryz.underlying3
  a3 := Tryz.isAgg3
  z3 := Tryz.sizeOf3
  v3 := Tryz.zeroValue3
  t4 := Tryz.underlying4
  a4 := Tryz.isAgg4
  z4 := Tryz.sizeOf4
  v4 := Tryz.zeroValue4
  t9 := Tryz.underlying9
  a9 := Tryz.isAgg9
  z9 := Tryz.sizeOf9
  v9 := Tryz.zeroValue9
  t31 := Tryz.underlying66
  a31 := Tryz.isAgg66
  z31 := Tryz.sizeOf66
  v31 := Tryz.zeroValue66 }
open Go.RowKit Go.Lib Go.Sort in
theorem Tryz.slices_Compact_string (blk off cap : Nat) (zs : List (List UInt8)) (w : World) (hH : Holds encStr w blk off zs.toArray) (hsz : zs.length ≤ 9223372036854775807) (hcap : zs.length ≤ cap) :
    Calls Tryz.prog 205 #[.slice (some ⟨blk, off, none⟩) zs.length cap] w fun e w' => e = .returned (.slice (some ⟨blk, off, none⟩) (Lib.compact zs).length cap) ∧ ∃ q, w' = putRow encStr (Sort.ahead w q) blk off (Lib.compact zs ++ List.replicate (zs.length - (Lib.compact zs).length) []).toArray := Any.slices_Compact_string Tryz.lays194 blk off cap zs w hH hsz hcap
open Go.RowKit Go.Lib Go.Sort in
theorem Tryz.slices_Compact_string_empty (a : Option Addr) (cap : Nat) (w : World) :
    Calls Tryz.prog 205 #[.slice a 0 cap] w fun e w' => e = .returned (.slice a 0 cap) ∧ w' = w := Any.slices_Compact_string_empty Tryz.lays194 a cap w
end Go.Proofs
namespace Go.Proofs.YtcachhnhncodoaaGreat
open Go.RowKit
set_option linter.unusedVariables false
def textsR (b : List (List UInt8)) (cs : List Nat) : List (List UInt8) × Nat :=
  if bookR b ≠ 0 then ([], bookR b) else if 64 < cs.length then ([], 2) else if cs.any (fun c => decide (b.length ≤ c)) then ([], 3) else (cs.map fun c => b.getD c [], 0)
theorem get_step (f : Nat → List UInt8) (cs : List Nat) (j : Nat) (hj : j < cs.length) :
    ((cs.take j).map f ++ List.replicate (cs.length - j) []).set j (f (cs.getD j 0)) = (cs.take (j + 1)).map f ++ List.replicate (cs.length - (j + 1)) [] := by
  have hl : ((cs.take j).map f).length = j := by simp; omega
  have e : cs.take (j + 1) = cs.take j ++ [cs.getD j 0] := by
    rw [List.take_succ_eq_append_getElem hj]; simp [List.getD, List.getElem?_eq_getElem hj]
  rw [List.set_append_right _ _ (by omega), hl, Nat.sub_self, show cs.length - j = (cs.length - (j + 1)) + 1 by omega, List.replicate_succ, List.set_cons_zero, e, List.map_append, List.append_assoc]
  rfl
theorem get_len (f : Nat → List UInt8) (cs : List Nat) (j : Nat) (hj : j ≤ cs.length) : ((cs.take j).map f ++ List.replicate (cs.length - j) []).length = cs.length := by simp; omega
def Plcs (cs : List Nat) (n k : Nat) : Prop := ∀ i, i < k → cs.getD i 0 < n
theorem Plcs.all {cs : List Nat} {n : Nat} (h : Plcs cs n cs.length) : cs.any (fun c => decide (n ≤ c)) = false := by
  rw [List.any_eq_false]
  intro x hx
  obtain ⟨i, hi, rfl⟩ := List.mem_iff_getElem.1 hx
  have := h i hi
  simp only [List.getD, List.getElem?_eq_getElem hi, Option.getD_some] at this
  simp; omega
theorem Plcs.succ {cs : List Nat} {n k : Nat} (h : Plcs cs n k) (hk : cs.getD k 0 < n) : Plcs cs n (k + 1) := by
  intro i hi
  by_cases e : i = k
  · rw [e]; exact hk
  · exact h i (by omega)
set_option maxHeartbeats 2000000 in
set_option maxRecDepth 100000 in
theorem dtexts_any (a : Option Addr) (c : Nat) (b : List (List UInt8)) (a2 : Option Addr) (c2 : Nat) (cs : List Nat) (w : World) (hx : ∀ x ∈ cs, x < 18446744073709551616) (hu : Txts w w.heap.size a b) (hu2 : Nums w w.heap.size a2 cs) :
    Calls Tryz.prog 182 #[.slice a b.length c, .slice a2 cs.length c2] w (TextsPost (textsR b cs) w) := by
  obtain ⟨i0, hi, hz0, hz1, hz2⟩ := info_parts info_str
  have HCK := Lib.hid (dcheck_any a c b w hu)
  unfold textsR
  by_cases hr : bookR b ≠ 0
  · rw [if_pos hr]
    generalize bookR b = er at *
    have g1 : ((er : Int) != 0) = true := by rw [bne_iff_ne]; omega
    clear hu hu2 hx
    go_enter Tryz.func182, Tryz.ntmps182
    go_wp2_with fail
    refine (HCK.out).mono ?_
    rintro e w1 ⟨rfl, hb1⟩
    go_wp2_with fail
    go_ret2
    exact TextsPost.none er hb1
  rw [if_neg hr]
  have hr0 : bookR b = 0 := by omega
  rw [hr0] at HCK
  have hbl := (bookR_len hr0).1
  by_cases h64 : 64 < cs.length
  · rw [if_pos h64]
    have g2 : decide ((64 : Int) < (cs.length : Int)) = true := decide_eq_true (by omega)
    clear hu hu2 hx hr hr0
    go_enter Tryz.func182, Tryz.ntmps182
    go_wp2_with fail
    refine (HCK.out).mono ?_
    rintro e w1 ⟨rfl, hb1⟩
    go_wp2_with fail
    go_ret2
    exact TextsPost.none 2 hb1
  rw [if_neg h64]
  have g2 : decide ((64 : Int) < (cs.length : Int)) = false := decide_eq_false (by omega)
  have HU := Lib.hid hu
  have HU2 := Lib.hid hu2
  have HX := Lib.hid (fun j (h : j < cs.length) => hx _ (getD_mem cs j h))
  obtain ⟨f, hf⟩ : ∃ f : Nat → List UInt8, f = fun c => b.getD c [] := ⟨_, rfl⟩
  have HFV := Lib.hid (fun c => show f c = b.getD c [] by rw [hf])
  rw [← hf]
  obtain ⟨R, hR⟩ : ∃ R, R = (if cs.any (fun c => decide (b.length ≤ c)) then (([] : List (List UInt8)), 3) else (cs.map f, 0)) := ⟨_, rfl⟩
  rw [← hR]
  have HBAD := Lib.hid (fun j (h : j < cs.length) (hj : b.length ≤ cs.getD j 0) => show R = ([], 3) by
    rw [hR, if_pos]; exact List.any_eq_true.2 ⟨_, getD_mem cs j h, by simpa using hj⟩)
  have HGOOD := Lib.hid (fun (h : Plcs cs b.length cs.length) => show R = (cs.map f, 0) by rw [hR, h.all, if_neg (by simp)])
  have HST := Lib.hid (fun j h => get_step f cs j h)
  have HLN := Lib.hid (fun j h => get_len f cs j h)
  have HEND := Lib.hid (show (cs.take cs.length).map f ++ List.replicate (cs.length - cs.length) [] = cs.map f by rw [List.take_length, Nat.sub_self]; simp)
  have HML := Lib.hid (show (cs.map f).length = cs.length by simp)
  have hcl : cs.length ≤ 64 := by omega
  have hwl : IntKind.u64.wrap (b.length : Int) = (b.length : Int) := by rw [IntKind.wrap_u64]; omega
  clear hu hu2 hx hr hr0 hf hR h64
  go_enter Tryz.func182, Tryz.ntmps182
  go_wp2_with fail
  refine (HCK.out).mono ?_
  rintro e w1 ⟨rfl, hb1⟩
  go_wp2_with (at_make; refine wpList_make_full _ rfl _ _ 66 rfl w1.heap.size 9 i0 (.string ByteArray.empty) 1 Tryz.underlying66 hi hz0 hz1 .i64 .i64 _ _ cs.length rfl rfl rfl rfl (by rw [hz2]; omega) (by unfold maxLen; omega) (Nat.le_refl _) ?_; intro w0 hown0 hgrow0)
  have hb0 : Below w1.heap.size w1 w0 := (Below.refl _ _).grown hgrow0 (Nat.le_refl _) (fun k hk => by cases hk)
  have hrow0 := made_trow hown0
  obtain ⟨g, hg⟩ : ∃ g, g = w1.heap.size := ⟨_, rfl⟩
  rw [← hg] at hrow0 ⊢
  have hgl : w1.heap.size ≤ g := by omega
  have hgw : w.heap.size ≤ g := by have := hb1.size; omega
  have hbw0 := below_then hb1 hb0
  clear hg hown0 hgrow0
  go_wp2_with fail
  go_loopw [8, 9, 23] (fun _ _ i wr => ∃ j : Nat, j ≤ cs.length ∧ i = .int .i64 j ∧ Hid (Plcs cs b.length j) ∧ TRow g ((cs.take j).map f ++ List.replicate (cs.length - j) []) (.slice (some ⟨g, 0, none⟩) cs.length cs.length) wr ∧ Below w.heap.size w wr) (fun _ _ i _ => cs.length - (intOf i).toNat)
  case atStart => exact ⟨0, by omega, rfl, Lib.hid (fun i hi => absurd hi (by omega)), by simpa using hrow0, hbw0⟩
  case round =>
    obtain ⟨j, hj, rfl, HPL, hrow, hbw⟩ := hrel
    by_cases hlt : j < cs.length
    · obtain ⟨bb, off, rfl, hbb, hcc⟩ := HU2.out (fun e => by rw [e] at hlt; simp at hlt)
      have cj := (hbw.cell (p := ⟨bb, off + j, none⟩) hbb).trans (hcc j hlt)
      have hxj := HX.out j hlt
      have HS := Lib.hid (HST.out j hlt)
      have hln := HLN.out j hj
      have HBJ := Lib.hid (HBAD.out j hlt)
      have HPS := Lib.hid (fun h => HPL.out.succ h)
      have hfv := HFV.out (cs.getD j 0)
      generalize cs.getD j 0 = x at *
      have hjI : (j : Int) < (cs.length : Int) := by omega
      clear hcc
      by_cases hge : b.length ≤ x
      · have g3 : decide (b.length ≤ x) = true := decide_eq_true hge
        have HB3 := Lib.hid (HBJ.out hge)
        clear hge hln hfv
        go_wp2_with fail
        go_ret2
        rw [HB3.out]
        exact TextsPost.none 3 hbw
      · have g3 : decide (b.length ≤ x) = false := decide_eq_false hge
        have HPN := Lib.hid (HPS.out (by omega))
        have hxb : x < b.length := by omega
        have hxI : (x : Int) < (b.length : Int) := by omega
        obtain ⟨b1, off1, rfl, hb1l, hcc1⟩ := HU.out (fun e => by rw [e] at hxb; simp at hxb)
        have cx := (hbw.cell (p := ⟨b1, off1 + x, none⟩) hb1l).trans (hcc1 x hxb)
        rw [← hfv] at cx
        generalize (cs.take j).map f ++ List.replicate (cs.length - j) [] = acc at *
        generalize f x = y at *
        have cg := hrow.cell j (by omega)
        have fg := hrow.free j
        have HR2 := Lib.hid (hrow.put j y)
        have HBW2 := Lib.hid (hbw.setCell (p := ⟨g, j, none⟩) hgw (.string (str y)))
        generalize acc.getD j [] = oz at *
        generalize str y = Y at *
        generalize str oz = OZ at *
        clear hge hln hfv hcc1 hrow
        go_wp2_with fail
        exact ⟨⟨j + 1, by omega, by go_num, HPN, by rw [← HS.out]; exact HR2.out, HBW2.out⟩, by simp [intOf]; omega⟩
    · obtain rfl : j = cs.length := by omega
      rw [HEND.out] at hrow
      have HT := Lib.hid hrow.txts.1
      have HRS := Lib.hid (HGOOD.out HPL.out)
      clear hrow
      go_wp2_with fail
      go_ret2
      rw [HRS.out]
      exact ⟨some ⟨g, 0, none⟩, cs.length, by rw [HML.out]; rfl, HT.out, hbw⟩
def SortPost (l : List (List UInt8)) (w : World) (e : Ending) (w' : World) : Prop :=
  ∃ a c, e = .returned (.slice a (T.bk l).length c) ∧ TRow w.heap.size (T.bk l) (.slice a (T.bk l).length c) w' ∧ Below w.heap.size w w'
set_option maxHeartbeats 2000000 in
set_option maxRecDepth 100000 in
theorem dsorted_nil (a : Option Addr) (c : Nat) (w : World) :
    Calls Tryz.prog 193 #[.slice a 0 c] w (SortPost [] w) := by
  have HS := Lib.hid (fun p cap W => show Calls Tryz.prog 204 #[.slice p 0 cap] W (fun e w' => e = .returned (.tuple #[]) ∧ w' = W) from Go.Proofs.Any.slices_Sort_string_none Tryz.lays190 p cap W)
  have HC := Lib.hid (fun p cap W => Tryz.slices_Compact_string_empty p cap W)
  have HBK := Lib.hid (show T.bk [] = [] by simp [T.bk, Lib.compact, Lib.compactUpTo])
  match a with
  | none =>
    have HN := Lib.hid (Tryz.slices_Clone_string_nil 0 c w)
    go_enter Tryz.func193, Tryz.ntmps193
    go_wp2_with fail
    refine (HN.out).mono ?_
    rintro e w1 ⟨rfl, rfl⟩
    go_wp2_with fail
    refine (HS.out _ _ _).mono ?_
    rintro e w2 ⟨rfl, rfl⟩
    go_wp2_with fail
    refine (HC.out _ _ _).mono ?_
    rintro e w3 ⟨rfl, rfl⟩
    go_wp2_with fail
    go_ret
    exact ⟨none, 0, by rw [HBK.out]; rfl, by rw [HBK.out]; exact tnilRow _ _, Below.refl _ _⟩
  | some ad =>
    have HN := Lib.hid (Tryz.slices_Clone_string_zero ad c w)
    go_enter Tryz.func193, Tryz.ntmps193
    go_wp2_with fail
    refine (HN.out).mono ?_
    rintro e w1 ⟨v1, rfl, hown, hne, hb1⟩
    obtain ⟨a1, c1, rfl, _, _, _⟩ := tRow_txts (xs := []) hown
    have HO := Lib.hid hown
    clear hown hne
    go_wp2_with fail
    refine (HS.out _ _ _).mono ?_
    rintro e w2 ⟨rfl, rfl⟩
    go_wp2_with fail
    refine (HC.out _ _ _).mono ?_
    rintro e w3 ⟨rfl, rfl⟩
    go_wp2_with fail
    go_ret
    exact ⟨a1, c1, by rw [HBK.out]; rfl, by rw [HBK.out]; exact HO.out, hb1⟩
theorem sort_end {w w1 : World} {g cap nn q : Nat} {os : Array Obj} {l : List (List UInt8)} (hrow : TRow w.heap.size l (.slice (some ⟨g, 0, none⟩) l.length cap) w1) (hb : Below w.heap.size w w1) :
    TRow w.heap.size (T.bk l) (.slice (some ⟨g, 0, none⟩) (T.bk l).length cap) (Go.Sort.putRow encStr (Go.Sort.ahead (Go.Sort.grow (Go.Sort.putRow encStr (Go.Sort.ahead w1 nn) g 0 (l.mergeSort fun x y => decide (x ≤ y)).toArray) os) q) g 0 (T.bk l ++ List.replicate (l.length - (T.bk l).length) []).toArray) ∧
    Below w.heap.size w (Go.Sort.putRow encStr (Go.Sort.ahead (Go.Sort.grow (Go.Sort.putRow encStr (Go.Sort.ahead w1 nn) g 0 (l.mergeSort fun x y => decide (x ≤ y)).toArray) os) q) g 0 (T.bk l ++ List.replicate (l.length - (T.bk l).length) []).toArray) := by
  have hsl : (l.mergeSort fun x y => decide (x ≤ y)).length = l.length := List.length_mergeSort l
  have hbl : (T.bk l).length ≤ l.length := by rw [← hsl]; exact Lib.compact_length_le _
  unfold TRow at hrow
  rcases hrow.2 with ⟨he, _⟩ | ⟨g', cap', cur, hv, hbase, hblk, h1, h2, h3, h4⟩
  · cases he
  cases hv
  have k1 := Go.ownsRow_sorted (n := nn) (os := os) (ts := l.mergeSort fun x y => decide (x ≤ y)) hsl hbase hblk h1 h2 h3
  have k2 := Lib.ownsRow_putRow (q := q) (k := (T.bk l).length) (ys := T.bk l ++ List.replicate (l.length - (T.bk l).length) []) k1 (by simp; omega) (by omega)
  rw [List.take_left] at k2
  exact ⟨k2, Lib.below_putRow (hb.grown (Go.grownBy_sorted _) hb.size (fun j hj => by cases hj; exact hbase)) hbase⟩
set_option maxHeartbeats 2000000 in
set_option maxRecDepth 100000 in
theorem dsorted_some (b off c : Nat) (l : List (List UInt8)) (w : World) (hl : l.length ≤ 64) (h0 : 0 < l.length) (hc : ∀ i, i < l.length → w.cell? ⟨b, off + i, none⟩ = some (.string (str (l.getD i [])))) :
    Calls Tryz.prog 193 #[.slice (some ⟨b, off, none⟩) l.length c] w (SortPost l w) := by
  have hcl := Tryz.slices_Clone_string b off l.length c (l.map str) w (by simp) (by omega) (by
    intro j hj
    have hj' : j < l.length := by simpa using hj
    rw [hc j hj']
    simp [List.getD, List.getElem?_eq_getElem hj'])
  have e : ((l.map str).take l.length).map Value.string = tv l := by
    rw [List.take_of_length_le (by simp), List.map_map]; rfl
  rw [e] at hcl
  have HCL := Lib.hid hcl
  have hsl : (l.mergeSort fun x y => decide (x ≤ y)).length = l.length := List.length_mergeSort l
  have HSL := Lib.hid hsl
  have HBK := Lib.hid (show Lib.compact (l.mergeSort fun x y => decide (x ≤ y)) = T.bk l from rfl)
  clear hcl e hsl hc
  go_enter Tryz.func193, Tryz.ntmps193
  go_wp2_with fail
  refine (HCL.out).mono ?_
  rintro e w1 ⟨v1, rfl, hown, hne, hb1⟩
  obtain ⟨a1, c1, rfl, _, hlc1, hcm1⟩ := tRow_txts (xs := l) hown
  have hrow : TRow w.heap.size l (.slice a1 l.length c1) w1 := hown
  obtain ⟨g, rfl, hcl1, hgw, hgs⟩ := hrow.form (fun e => by rw [e] at h0; simp at h0)
  have hH : Go.Sort.Holds encStr w1 g 0 l.toArray := by
    intro j hj
    have hj' : j < l.length := by simpa using hj
    have h1 := hrow.cell j hj'
    have h2 := hrow.free j
    rw [Nat.zero_add, h1, h2]
    refine ⟨?_, rfl⟩
    simp [List.getD, hj', str]
  have HSO := Lib.hid (Tryz.slices_Sort_string g 0 c1 l w1 hH hgs (by omega))
  have HROW := Lib.hid hrow
  have HH := Lib.hid hH
  clear hown hne hrow hH hcl1
  go_wp2_with fail
  refine (HSO.out).mono ?_
  rintro e w2 ⟨rfl, nn, os, rfl⟩
  have hH2 : Go.Sort.Holds encStr (Go.Sort.grow (Go.Sort.putRow encStr (Go.Sort.ahead w1 nn) g 0 (l.mergeSort fun x y => decide (x ≤ y)).toArray) os) g 0 (l.mergeSort fun x y => decide (x ≤ y)).toArray :=
    Go.Sort.holds_grow encStr _ os g 0 _ (by simpa [Go.Sort.putRow, Go.Sort.mapBlock, Go.Sort.ahead] using hgs) (Go.Sort.holds_putRow encStr _ g 0 _ _ (Go.Sort.holds_ahead encStr w1 nn g 0 _ HH.out) (by simp))
  have hcm := Tryz.slices_Compact_string g 0 c1 (l.mergeSort fun x y => decide (x ≤ y)) _ hH2 (by rw [HSL.out]; omega) (by rw [HSL.out]; exact hlc1)
  rw [HSL.out, HBK.out] at hcm
  have HCM := Lib.hid hcm
  clear hH2 hcm
  go_wp2_with fail
  refine (HCM.out).mono ?_
  rintro e w3 ⟨rfl, q, rfl⟩
  have hend := sort_end (nn := nn) (q := q) (os := os) HROW.out hb1
  have HE := Lib.hid hend
  clear hend
  go_wp2_with fail
  go_ret
  exact ⟨some ⟨g, 0, none⟩, c1, rfl, HE.out.1, HE.out.2⟩
theorem dsorted_any (a : Option Addr) (c : Nat) (l : List (List UInt8)) (w : World) (hl : l.length ≤ 64) (hu : Txts w w.heap.size a l) :
    Calls Tryz.prog 193 #[.slice a l.length c] w (SortPost l w) := by
  by_cases h : l = []
  · subst h; exact dsorted_nil a c w
  · obtain ⟨b, off, rfl, hb, hc⟩ := hu h
    exact dsorted_some b off c l w hl (by cases l with
      | nil => exact absurd rfl h
      | cons x t => simp) hc
end Go.Proofs.YtcachhnhncodoaaGreat
namespace Go.Proofs.YtcachhnhncodoaaGreat
open Go.RowKit
set_option linter.unusedVariables false
def pB (s : List UInt8) (same : Bool) (y : List UInt8) : Bool := decide (y < s) || (same && decide (y = s))
set_option maxHeartbeats 2000000 in
set_option maxRecDepth 100000 in
theorem rtexts_any (a : Option Addr) (c : Nat) (b : List (List UInt8)) (a2 : Option Addr) (c2 : Nat) (cs : List Nat) (w : World) (hm : b.length ≤ maxLen) (hm2 : cs.length ≤ maxLen) (hx : ∀ x ∈ cs, x < 18446744073709551616) (hu : Txts w w.heap.size a b) (hu2 : Nums w w.heap.size a2 cs) :
    Calls Tryz.prog 126 #[.slice a b.length c, .slice a2 cs.length c2] w (TextsPost (textsR b cs) w) := by
  have HCK := Lib.hid (rcheck_any a c b w hm hu)
  unfold maxLen at hm hm2
  unfold textsR
  by_cases hr : bookR b ≠ 0
  · rw [if_pos hr]
    generalize bookR b = er at *
    have g1 : ((er : Int) != 0) = true := by rw [bne_iff_ne]; omega
    clear hu hu2 hx
    go_enter Tryz.func126, Tryz.ntmps126
    go_wp2_with fail
    refine (HCK.out).mono ?_
    rintro e w1 ⟨rfl, d, rfl⟩
    go_wp2_with fail
    go_ret2
    exact TextsPost.none er (below_drewN (Below.refl _ _) _)
  rw [if_neg hr]
  have hr0 : bookR b = 0 := by omega
  rw [hr0] at HCK
  have hbl := (bookR_len hr0).1
  by_cases h64 : 64 < cs.length
  · rw [if_pos h64]
    have g2 : decide ((64 : Int) < (cs.length : Int)) = true := decide_eq_true (by omega)
    clear hu hu2 hx hr hr0
    go_enter Tryz.func126, Tryz.ntmps126
    go_wp2_with fail
    refine (HCK.out).mono ?_
    rintro e w1 ⟨rfl, d, rfl⟩
    go_wp2_with fail
    go_ret2
    exact TextsPost.none 2 (below_drewN (Below.refl _ _) _)
  rw [if_neg h64]
  have g2 : decide ((64 : Int) < (cs.length : Int)) = false := decide_eq_false (by omega)
  have HU := Lib.hid hu
  have HU2 := Lib.hid hu2
  have HX := Lib.hid (fun j (h : j < cs.length) => hx _ (getD_mem cs j h))
  obtain ⟨f, hf⟩ : ∃ f : Nat → List UInt8, f = fun c => b.getD c [] := ⟨_, rfl⟩
  have HFV := Lib.hid (fun c => show f c = b.getD c [] by rw [hf])
  rw [← hf]
  obtain ⟨R, hR⟩ : ∃ R, R = (if cs.any (fun c => decide (b.length ≤ c)) then (([] : List (List UInt8)), 3) else (cs.map f, 0)) := ⟨_, rfl⟩
  rw [← hR]
  have HBAD := Lib.hid (fun j (h : j < cs.length) (hj : b.length ≤ cs.getD j 0) => show R = ([], 3) by
    rw [hR, if_pos]; exact List.any_eq_true.2 ⟨_, getD_mem cs j h, by simpa using hj⟩)
  have HGOOD := Lib.hid (fun (h : Plcs cs b.length cs.length) => show R = (cs.map f, 0) by rw [hR, h.all, if_neg (by simp)])
  have HST := Lib.hid (fun j (h : j < cs.length) => show (cs.take (j + 1)).map f = (cs.take j).map f ++ [f (cs.getD j 0)] by
    rw [List.take_succ_eq_append_getElem h, List.map_append]; congr 1; simp [List.getD, List.getElem?_eq_getElem h])
  have HEND := Lib.hid (show (cs.take cs.length).map f = cs.map f by rw [List.take_length])
  have HLN := Lib.hid (fun j (h : j ≤ cs.length) => show ((cs.take j).map f).length = j by simp; omega)
  have hcl : cs.length ≤ 64 := by omega
  have hwl : IntKind.u64.wrap (b.length : Int) = (b.length : Int) := by rw [IntKind.wrap_u64]; omega
  clear hu hu2 hx hr hr0 hf hR h64
  go_enter Tryz.func126, Tryz.ntmps126
  go_wp2_with fail
  refine (HCK.out).mono ?_
  rintro e w1 ⟨rfl, d, rfl⟩
  go_wp2_with fail
  go_loopw [7, 8] (fun v i wr => ∃ j : Nat, j ≤ cs.length ∧ i = .int .i64 j ∧ Hid (Plcs cs b.length j) ∧ TRow w.heap.size ((cs.take j).map f) v wr ∧ Below w.heap.size w wr) (fun _ i _ => cs.length - (intOf i).toNat)
  case atStart => exact ⟨0, by omega, rfl, Lib.hid (fun i hi => absurd hi (by omega)), tnilRow _ _, below_drewN (Below.refl _ _) _⟩
  case round =>
    obtain ⟨j, hj, rfl, HPL, hrow, hbw⟩ := hrel
    by_cases hlt : j < cs.length
    · obtain ⟨bb, off, rfl, hbb, hcc⟩ := HU2.out (fun e => by rw [e] at hlt; simp at hlt)
      have cj := (hbw.cell (p := ⟨bb, off + j, none⟩) hbb).trans (hcc j hlt)
      have hxj := HX.out j hlt
      have HS := Lib.hid (HST.out j hlt)
      have hln := HLN.out j hj
      have HBJ := Lib.hid (HBAD.out j hlt)
      have HPS := Lib.hid (fun h => HPL.out.succ h)
      have hfv := HFV.out (cs.getD j 0)
      generalize cs.getD j 0 = x at *
      have hjI : (j : Int) < (cs.length : Int) := by omega
      clear hcc
      by_cases hge : b.length ≤ x
      · have g3 : decide (b.length ≤ x) = true := decide_eq_true hge
        have HB3 := Lib.hid (HBJ.out hge)
        clear hge hln hfv hrow
        go_wp2_with fail
        go_ret2
        rw [HB3.out]
        exact TextsPost.none 3 hbw
      · have g3 : decide (b.length ≤ x) = false := decide_eq_false hge
        have HPN := Lib.hid (HPS.out (by omega))
        have hxb : x < b.length := by omega
        have hxI : (x : Int) < (b.length : Int) := by omega
        obtain ⟨b1, off1, rfl, hb1l, hcc1⟩ := HU.out (fun e => by rw [e] at hxb; simp at hxb)
        have cx := (hbw.cell (p := ⟨b1, off1 + x, none⟩) hb1l).trans (hcc1 x hxb)
        rw [← hfv] at cx
        generalize (cs.take j).map f = acc at *
        generalize f x = y at *
        have hlb : (acc.length + 1) * 16 ≤ 140737488355328 := by omega
        have HROW := Lib.hid hrow
        have hsz2 := hbw.size
        have hb5 : w.heap.size ≤ (wr.alloc (.cells #[.string (str y)] 9)).heap.size := by simp; omega
        generalize hY : str y = Y at *
        clear hge hln hfv hcc1 hrow
        go_wp2_with (at_builtin; refine wpList_append_onet rfl (.tmp 31) (.tmp 39) rfl w.heap.size _ acc rfl (HROW.out.alloc_ _) wr.heap.size y rfl (by rw [hY]; exact World.cell?_alloc_new _ _ _ _) hlb hb5 ?_)
        intro v' w5 hown5 hb5w
        have hbw5 : Below w.heap.size w w5 := (hbw.alloc hbw.size _).trans hb5w
        go_wp2_with fail
        exact ⟨⟨j + 1, by omega, by go_num, HPN, by rw [HS.out]; exact hown5, hbw5⟩, by simp [intOf]; omega⟩
    · obtain rfl : j = cs.length := by omega
      rw [HEND.out] at hrow
      have HRS := Lib.hid (HGOOD.out HPL.out)
      obtain ⟨a', c', rfl, ht, _⟩ := tRow_txts hrow
      have HT := Lib.hid ht
      clear hrow ht
      go_wp2_with fail
      go_ret2
      rw [HRS.out]
      exact ⟨a', c', rfl, HT.out, hbw⟩
end Go.Proofs.YtcachhnhncodoaaGreat
namespace Go.Proofs.YtcachhnhncodoaaGreat
open Go.RowKit Go.Maps Go.WideMaps
set_option linter.unusedVariables false
def ofR (l : List (List UInt8)) : List (List UInt8) × List Nat × Nat :=
  if fitR l ≠ 0 then ([], [], fitR l) else (T.bk l, l.map (T.plc (T.bk l)), 0)
def OfPost (r : List (List UInt8) × List Nat × Nat) (w : World) (e : Ending) (w' : World) : Prop :=
  ∃ a c a2 c2, e = .returned (.tuple #[.slice a r.1.length c, .slice a2 r.2.1.length c2, .int .i64 r.2.2]) ∧ Txts w' w'.heap.size a r.1 ∧ Nums w' w'.heap.size a2 r.2.1 ∧ Below w.heap.size w w'
theorem law_str : Keyed Tryz.prog 9 := string_keyed Tryz.underlying9
theorem zero_u64 (w : World) : (zeroValue 34).run Tryz.prog w = .ok (.int .u64 0) w := by kernel_rfl
theorem key_str (x : List UInt8) (h : x.length ≤ maxLen) : keyOf Tryz.prog 9 (.string (str x)) = some (.string x) := by
  have := keyOf_string_mk (P := Tryz.prog) Tryz.underlying9 (s := str x) (by rw [str_size]; exact h)
  rw [str_data] at this; exact this
theorem wf_u64 (n : Nat) (h : n < 18446744073709551616) : (Lit.int .u64 (n : Int)).wf = true := by
  simp [Lit.wf, IntKind.min, IntKind.max, IntKind.signed, IntKind.bits]; omega
theorem ownsMap_keep {H : Type} {P : Program} {k : TypeId} {R : Value → Option (DataW H × List MemPlace)} {w w' : World} {b n : Nat} {D : DataW H} (h : w.ownsMap P k R b n D) (e : w'.heap[b]? = w.heap[b]?) : w'.ownsMap P k R b n D := by
  obtain ⟨es, clock, hb, F, hs, hD⟩ := h
  exact ⟨es, clock, e.trans hb, F, hs, hD⟩
theorem ownsMap_lt {H : Type} {P : Program} {k : TypeId} {R : Value → Option (DataW H × List MemPlace)} {w : World} {b n : Nat} {D : DataW H} (h : w.ownsMap P k R b n D) : b < w.heap.size := by
  obtain ⟨es, clock, hb, F, hs, hD⟩ := h
  exact lt_of_block hb
def Has (b : List (List UInt8)) (D : DataW Unit) (k : Nat) : Prop := ∀ i, i < k → D.atKey (.string (b.getD i [])) (.lit (.int .u64 0)) = .lit (.int .u64 (i : Int))
theorem Has.put {b : List (List UInt8)} {D : DataW Unit} {k : Nat} (h : Has b D k) (hD : Maps.IsMap D) (hb : T.Up b) (hk : k < b.length) : Has b (D.put (.string (b.getD k [])) (.lit (.int .u64 (k : Int)))) (k + 1) := by
  intro i hi
  by_cases e : i = k
  · subst e
    exact Maps.atKey_put_same hD (by trivial) _ _
  · rw [Maps.atKey_put_other (fun h2 => ?_)]
    · exact h i (by omega)
    · injection h2 with h2
      have h3 : b[i]'(by omega) = b[k] := by simpa [List.getD, List.getElem?_eq_getElem hk, List.getElem?_eq_getElem (show i < b.length by omega)] using h2
      exact e (T.up_inj hb (by omega) hk h3)
theorem Has.at {b : List (List UInt8)} {D : DataW Unit} (h : Has b D b.length) (hb : T.Up b) {x : List UInt8} (hx : x ∈ b) : D.atKey (.string x) (.lit (.int .u64 0)) = .lit (.int .u64 ((T.plc b x : Nat) : Int)) := by
  obtain ⟨h1, h2⟩ := T.plc_mem hb hx
  have := h _ h1
  rw [h2] at this
  exact this
theorem fit_zero {l : List (List UInt8)} (h : fitR l = 0) : l.length ≤ 64 ∧ ∀ x ∈ l, x.length ≤ 16 := by
  unfold fitR at h
  rcases Classical.em (64 < l.length ∨ l.findIdx long < l.length) with hh | hh
  · rw [if_pos hh] at h; exact absurd h (by decide)
  · constructor
    · rcases Nat.lt_or_ge 64 l.length with k | k
      · exact absurd (Or.inl k) hh
      · exact k
    · intro x hx
      rcases Nat.lt_or_ge 16 x.length with k | k
      · exact absurd (Or.inr (List.findIdx_lt_length_of_exists ⟨x, hx, by simp [long, k]⟩)) hh
      · exact k
theorem nget_step (f : List UInt8 → Nat) (l : List (List UInt8)) (j : Nat) (hj : j < l.length) :
    ((l.take j).map f ++ List.replicate (l.length - j) 0).set j (f (l.getD j [])) = (l.take (j + 1)).map f ++ List.replicate (l.length - (j + 1)) 0 := by
  have hl : ((l.take j).map f).length = j := by simp; omega
  rw [List.set_append_right _ _ (by omega), hl, Nat.sub_self, show l.length - j = (l.length - (j + 1)) + 1 by omega, List.replicate_succ, List.set_cons_zero, ttake_succ l j hj, List.map_append, List.append_assoc]
  rfl
theorem nget_len (f : List UInt8 → Nat) (l : List (List UInt8)) (j : Nat) (hj : j ≤ l.length) : ((l.take j).map f ++ List.replicate (l.length - j) 0).length = l.length := by simp; omega
set_option maxHeartbeats 2000000 in
set_option maxRecDepth 100000 in
theorem dictOf_any (a : Option Addr) (c : Nat) (l : List (List UInt8)) (w : World) (hu : Txts w w.heap.size a l) :
    Calls Tryz.prog 169 #[.slice a l.length c] w (OfPost (ofR l) w) := by
  obtain ⟨i0, hi, hz0, hz1, hz2⟩ := info_parts info_u64
  have HF := Lib.hid (fit_any a c l w hu)
  unfold ofR
  by_cases hf : fitR l ≠ 0
  · rw [if_pos hf]
    generalize fitR l = er at *
    have g1 : ((er : Int) != 0) = true := by rw [bne_iff_ne]; omega
    clear hu
    go_enter Tryz.func169, Tryz.ntmps169
    go_wp2_with fail
    refine (HF.out).mono ?_
    rintro e w1 ⟨rfl, rfl⟩
    go_wp2_with fail
    go_ret3
    exact ⟨none, 0, none, 0, rfl, Txts.nil _ _ _, Nums.nil _ _ _, Below.refl _ _⟩
  rw [if_neg hf]
  have hf0 : fitR l = 0 := by omega
  rw [hf0] at HF
  obtain ⟨hl64, hlx⟩ := fit_zero hf0
  have HSO := Lib.hid (dsorted_any a c l w hl64 hu)
  have hup := T.bk_up l
  have HBM := Lib.hid (fun x => T.bk_mem l x)
  have hblen : (T.bk l).length ≤ 64 := by
    have hsl : (l.mergeSort fun x y => decide (x ≤ y)).length = l.length := List.length_mergeSort l
    have : (T.bk l).length ≤ (l.mergeSort fun x y => decide (x ≤ y)).length := Lib.compact_length_le _
    omega
  have HBX := Lib.hid (fun k (h : k < (T.bk l).length) => show ((T.bk l).getD k []).length ≤ 16 from hlx _ ((T.bk_mem l _).1 (tgetD_mem _ k h)))
  have HLX := Lib.hid (fun k (h : k < l.length) => hlx _ (tgetD_mem l k h))
  have HLM := Lib.hid (fun k (h : k < l.length) => show l.getD k [] ∈ T.bk l from (T.bk_mem l _).2 (tgetD_mem l k h))
  have HU := Lib.hid hu
  have HUP := Lib.hid hup
  unfold SortPost at HSO
  generalize T.bk l = b at *
  have HST := Lib.hid (fun j h => nget_step (T.plc b) l j h)
  have HLN := Lib.hid (fun j h => nget_len (T.plc b) l j h)
  have HEND := Lib.hid (show (l.take l.length).map (T.plc b) ++ List.replicate (l.length - l.length) 0 = l.map (T.plc b) by rw [List.take_length, Nat.sub_self]; simp)
  have HML := Lib.hid (show (l.map (T.plc b)).length = l.length by simp)
  have HPB := Lib.hid (fun x => T.plc_le b x)
  have HPA := Lib.hid (fun (D : DataW Unit) (h : Has b D b.length) (x : List UInt8) (hx : x ∈ b) => h.at HUP.out hx)
  have hmm : ∀ (w : World) (n : Int), (Instr.makeMap 186 (some (.int .i64 n))).run Tryz.prog w = .ok (.map (some w.heap.size)) (w.alloc (.map #[] 0)) := fun _ _ => by kernel_rfl
  clear hf hf0 hlx hup hu
  go_enter Tryz.func169, Tryz.ntmps169
  go_wp2_with fail
  refine (HF.out).mono ?_
  rintro e w1 ⟨rfl, rfl⟩
  go_wp2_with fail
  refine (HSO.out).mono ?_
  rintro e w2 ⟨a2, c2, rfl, hrow, hb2⟩
  have HT2 := Lib.hid hrow.txts.1
  clear hrow
  have hm0 : (w2.alloc (.map #[] 0)).ownsMap Tryz.prog 9 (plainElem (H := Unit) Tryz.prog 34) w2.heap.size 0 (.map []) := World.ownsMap_made _ _ _ _
  have hbm : Below w2.heap.size w2 (w2.alloc (.map #[] 0)) := (Below.refl _ _).alloc (Nat.le_refl _) _
  go_wp2_with fail
  go_loopw [8, 9, 25] (fun _ _ i wr => ∃ (k : Nat) (D : DataW Unit), k ≤ b.length ∧ i = .int .i64 k ∧ wr.ownsMap Tryz.prog 9 (plainElem (H := Unit) Tryz.prog 34) w2.heap.size k D ∧ Hid (Has b D k) ∧ Below w2.heap.size w2 wr) (fun _ _ i _ => b.length - (intOf i).toNat)
  case atStart => exact ⟨0, .map [], by omega, rfl, hm0, Lib.hid (fun i hi => absurd hi (by omega)), hbm⟩
  case round =>
    obtain ⟨k, D, hk, rfl, hown, HHS, hbw⟩ := hrel
    by_cases hlt : k < b.length
    · obtain ⟨b1, off1, rfl, hb1l, hcc1⟩ := HT2.out (fun e => by rw [e] at hlt; simp at hlt)
      have cx := (hbw.cell (p := ⟨b1, off1 + k, none⟩) hb1l).trans (hcc1 k hlt)
      have hxl := HBX.out k hlt
      have HPU := Lib.hid (HHS.out.put hown.isMap HUP.out hlt)
      generalize b.getD k [] = x at *
      have hkey := key_str x (by unfold maxLen; omega)
      generalize str x = X at *
      have hkI : (k : Int) < (b.length : Int) := by omega
      have hwk : IntKind.u64.wrap (k : Int) = (k : Int) := by rw [IntKind.wrap_u64]; omega
      have HOWN := Lib.hid hown
      have HKEY := Lib.hid hkey
      have hwf := wf_u64 k (by omega)
      have HWF := Lib.hid hwf
      clear hcc1 hown hkey hwf
      go_wp2_with (at_mapUpdate; refine wpList_mapUpdate_own _ rfl (.tmp 30) (.tmp 31) (.tmp 33) 186 rfl 9 34 law_str Tryz.underlying186 _ w2.heap.size k _ rfl HOWN.out (by unfold maxLen; omega) _ _ _ rfl rfl HKEY.out _ [] (plainElem_int Tryz.underlying34 HWF.out) ?_)
      intro w5 hown5 hgrow5
      have hbw5 : Below w2.heap.size w2 w5 := hbw.grown hgrow5 hbw.size (fun j hj => by cases hj; exact Nat.le_refl _)
      have HOWN5 := Lib.hid hown5
      clear hown5 hgrow5
      go_wp2_with fail
      exact ⟨⟨k + 1, _, by omega, by go_num, HOWN5.out, HPU, hbw5⟩, by simp [intOf]; omega⟩
    · obtain rfl : k = b.length := by omega
      have HOWN := Lib.hid hown
      have HAT := Lib.hid (fun x hx => HPA.out D HHS.out x hx)
      have hMlt := ownsMap_lt hown
      clear hown HHS
      go_wp2_with (at_make; refine wpList_make_full _ rfl _ _ 44 rfl wr.heap.size 34 i0 (.int .u64 0) 1 Tryz.underlying44 hi hz0 hz1 .i64 .i64 _ _ l.length rfl rfl rfl rfl (by rw [hz2]; omega) (by unfold maxLen; omega) (Nat.le_refl _) ?_; intro w6 hown6 hgrow6)
      have hb6 : Below wr.heap.size wr w6 := (Below.refl _ _).grown hgrow6 (Nat.le_refl _) (fun k hk => by cases hk)
      have hblk := made_ublk hown6
      obtain ⟨g, hg⟩ : ∃ g, g = wr.heap.size := ⟨_, rfl⟩
      rw [← hg] at hblk ⊢
      have hgM : w2.heap.size < g := by omega
      have HOWN6 := Lib.hid (ownsMap_keep HOWN.out (hb6.block w2.heap.size hMlt))
      have hbw6 : Below w2.heap.size w2 w6 := hbw.trans (hb6.mono hbw.size)
      clear hg hown6 hgrow6
      go_wp2_with fail
      go_loopw [11, 12, 40] (fun _ _ i wr2 => ∃ j : Nat, j ≤ l.length ∧ i = .int .i64 j ∧ UBlk wr2 g ((l.take j).map (T.plc b) ++ List.replicate (l.length - j) 0) ∧ wr2.ownsMap Tryz.prog 9 (plainElem (H := Unit) Tryz.prog 34) w2.heap.size b.length D ∧ Below w2.heap.size w2 wr2) (fun _ _ i _ => l.length - (intOf i).toNat)
      case atStart => exact ⟨0, by omega, rfl, by simpa using hblk, HOWN6.out, hbw6⟩
      case round =>
        obtain ⟨j, hj, rfl, hub, hom, hbw2⟩ := hrel
        by_cases hlt : j < l.length
        · obtain ⟨b1, off1, rfl, hb1l, hcc1⟩ := HU.out (fun e => by rw [e] at hlt; simp at hlt)
          have cx := (hbw2.cell (p := ⟨b1, off1 + j, none⟩) (show b1 < w2.heap.size by have := hb2.size; omega)).trans ((hb2.cell (p := ⟨b1, off1 + j, none⟩) hb1l).trans (hcc1 j hlt))
          have hxl := HLX.out j hlt
          have hxm := HLM.out j hlt
          have HS := Lib.hid (HST.out j hlt)
          have hln := HLN.out j hj
          generalize l.getD j [] = x at *
          have hkey := key_str x (by unfold maxLen; omega)
          have hat0 := HAT.out x hxm
          have hpb := HPB.out x
          generalize T.plc b x = p at *
          generalize (l.take j).map (T.plc b) ++ List.replicate (l.length - j) 0 = acc at *
          generalize str x = X at *
          have hjI : (j : Int) < (l.length : Int) := by omega
          have u1 := hub.cell j (by omega)
          have u2 := hub.free j
          have HUB2 := Lib.hid (hub.put j p)
          generalize acc.getD j 0 = oz at *
          have HOM := Lib.hid hom
          have HKEY := Lib.hid hkey
          have HA0 := Lib.hid hat0
          have HKP := Lib.hid (show (wr.setCell ⟨g, j, none⟩ (.int .u64 (p : Int))).ownsMap Tryz.prog 9 (plainElem (H := Unit) Tryz.prog 34) w2.heap.size b.length D from ownsMap_keep hom (by
            have hne : ¬ g = w2.heap.size := by omega
            simp [World.setCell, Array.getElem?_modify, hne]))
          clear hcc1 hom hkey hat0 hub hln
          go_wp2_with (at_lookup; refine wpList_lookup_own_int _ rfl (.tmp 47) (.tmp 48) 186 rfl 9 34 .u64 law_str Tryz.underlying186 Tryz.underlying34 (zero_u64 _) w2.heap.size b.length D rfl HOM.out _ _ rfl HKEY.out ?_)
          intro cv hat hwc
          have hcp : cv = (p : Int) := by
            have h1 := HA0.out
            rw [hat] at h1
            injection h1 with h1
            injection h1
          subst hcp
          clear hat hwc
          go_wp2_with fail
          exact ⟨⟨j + 1, by omega, by go_num, by rw [← HS.out]; exact HUB2.out, HKP.out, hbw2.setCell (p := ⟨g, j, none⟩) (show w2.heap.size ≤ g by omega) _⟩, by simp [intOf]; omega⟩
        · obtain rfl : j = l.length := by omega
          rw [HEND.out] at hub
          have HNM := Lib.hid hub.nums
          have HTF := Lib.hid (HT2.out.next hbw2)
          clear hub hom
          go_wp2_with fail
          go_ret3
          exact ⟨a2, c2, some ⟨g, 0, none⟩, l.length, by rw [HML.out]; rfl, HTF.out, HNM.out, below_then hb2 hbw2⟩
end Go.Proofs.YtcachhnhncodoaaGreat
namespace Go.Proofs.YtcachhnhncodoaaGreat
open Go.RowKit
set_option linter.unusedVariables false
theorem count_idx (p : List UInt8 → Bool) (b : List (List UInt8)) (hb : T.Up b) (hp : ∀ x y, x < y → p y = true → p x = true) : b.countP p = b.findIdx fun y => !p y := by
  induction b with
  | nil => rfl
  | cons x t ih =>
    obtain ⟨h1, h2⟩ := List.pairwise_cons.1 hb
    rw [List.findIdx_cons, List.countP_cons]
    by_cases h : p x = true
    · rw [h, ih h2]; simp
    · have hx : p x = false := by simpa using h
      rw [hx]
      have : t.countP p = 0 := by
        rw [List.countP_eq_zero]
        intro y hy hpy
        exact h (hp x y (h1 y hy) hpy)
      rw [this]; simp
theorem count_lt (s : List UInt8) {b : List (List UInt8)} (hb : T.Up b) : b.countP (pB s false) = T.plc b s := by
  rw [count_idx _ b hb (fun x y hxy h => by
    simp [pB] at h ⊢
    exact T.lt_tr hxy h)]
  unfold T.plc
  congr 1
  funext y
  simp [pB]
theorem fit_of {l : List (List UInt8)} (h1 : l.length ≤ 64) (h2 : ∀ x ∈ l, x.length ≤ 16) : fitR l = 0 := by
  unfold fitR
  rw [if_neg]
  rintro (h | h)
  · omega
  · obtain ⟨h3, h4⟩ := (⟨h, List.findIdx_getElem (w := h)⟩ : ∃ h : l.findIdx long < l.length, long (l[l.findIdx long]) = true)
    have := h2 _ (List.getElem_mem h3)
    simp [long] at h4
    omega
theorem bk_length (l : List (List UInt8)) : (T.bk l).length ≤ l.length := by
  have hsl : (l.mergeSort fun x y => decide (x ≤ y)).length = l.length := List.length_mergeSort l
  rw [← hsl]; exact Lib.compact_length_le _
theorem book_bk {l : List (List UInt8)} (h : fitR l = 0) : bookR (T.bk l) = 0 := by
  obtain ⟨h1, h2⟩ := fit_zero h
  have hl := bk_length l
  have hf : fitR (T.bk l) = 0 := fit_of (by omega) fun x hx => h2 x ((T.bk_mem l x).1 hx)
  unfold bookR
  rw [hf, if_neg (by simp), if_pos ((rise_up _).2 (T.bk_up l))]
theorem code_lt {l : List (List UInt8)} {x : List UInt8} (hx : x ∈ l) : T.plc (T.bk l) x < (T.bk l).length ∧ (T.bk l).getD (T.plc (T.bk l) x) [] = x :=
  T.plc_mem (T.bk_up l) ((T.bk_mem l x).2 hx)
theorem texts_bk {l : List (List UInt8)} (h : fitR l = 0) : textsR (T.bk l) (l.map (T.plc (T.bk l))) = (l, 0) := by
  obtain ⟨h1, h2⟩ := fit_zero h
  unfold textsR
  rw [if_neg (by simp [book_bk h]), if_neg (by simp; omega), if_neg]
  · rw [List.map_map]
    have : l.map ((fun c => (T.bk l).getD c []) ∘ T.plc (T.bk l)) = l.map id := List.map_congr_left fun x hx => (code_lt hx).2
    rw [this, List.map_id]
  · rw [List.any_map, List.any_eq_true]
    rintro ⟨x, hx, hd⟩
    have := (code_lt hx).1
    simp at hd
    omega
theorem code_at (f : List UInt8 → Nat) (l : List (List UInt8)) (k : Nat) (hk : k < l.length) : (l.map f).getD k 0 = f (l.getD k []) := by
  simp [List.getD, hk]
theorem getD_get (l : List (List UInt8)) (k : Nat) (hk : k < l.length) : l.getD k [] = l[k] := by simp [List.getD, List.getElem?_eq_getElem hk]
def seen (l : List (List UInt8)) (x : List UInt8) (k : Nat) : Bool := (l.take k).any fun y => decide (y = x)
theorem seen_zero (l : List (List UInt8)) (x : List UInt8) : seen l x 0 = false := by simp [seen]
theorem seen_succ (l : List (List UInt8)) (x : List UInt8) (k : Nat) (hk : k < l.length) : seen l x (k + 1) = (seen l x k || decide (l.getD k [] = x)) := by
  unfold seen; rw [ttake_succ l k hk, List.any_append]; simp
end Go.Proofs.YtcachhnhncodoaaGreat
namespace Go.Proofs.YtcachhnhncodoaaGreat
open Go.RowKit
set_option linter.unusedVariables false
theorem seen_iff (l : List (List UInt8)) (x : List UInt8) (k : Nat) : seen l x k = true ↔ x ∈ l.take k := by
  unfold seen
  rw [List.any_eq_true]
  constructor
  · rintro ⟨y, hy, h⟩
    rw [decide_eq_true_iff] at h
    subst h; exact hy
  · exact fun h => ⟨x, h, by simp⟩
def nb (l : List (List UInt8)) : Nat → List (List UInt8)
  | 0 => []
  | k + 1 => if seen l (l.getD k []) k then nb l k else nb l k ++ [l.getD k []]
theorem nb_mem (l : List (List UInt8)) (x : List UInt8) : ∀ k, k ≤ l.length → (x ∈ nb l k ↔ x ∈ l.take k) := by
  intro k
  induction k with
  | zero => intro _; simp [nb]
  | succ k ih =>
    intro h
    have h1 := ih (by omega)
    rw [ttake_succ l k (by omega), List.mem_append, List.mem_singleton]
    unfold nb
    by_cases hs : seen l (l.getD k []) k = true
    · rw [if_pos hs, h1]
      rw [seen_iff] at hs
      constructor
      · exact Or.inl
      · rintro (h2 | h2)
        · exact h2
        · rw [h2]; exact hs
    · rw [if_neg hs, List.mem_append, List.mem_singleton, h1]
theorem nb_nodup (l : List (List UInt8)) : ∀ k, k ≤ l.length → (nb l k).Nodup := by
  intro k
  induction k with
  | zero => intro _; simp [nb]
  | succ k ih =>
    intro h
    have h1 := ih (by omega)
    unfold nb
    by_cases hs : seen l (l.getD k []) k = true
    · rw [if_pos hs]; exact h1
    · rw [if_neg hs]
      refine List.nodup_append.2 ⟨h1, by simp, fun x hx y hy e => ?_⟩
      rw [List.mem_singleton] at hy
      subst e
      rw [hy, nb_mem l _ k (by omega), ← seen_iff] at hx
      exact hs hx
theorem nb_length (l : List (List UInt8)) : ∀ k, (nb l k).length ≤ k := by
  intro k
  induction k with
  | zero => simp [nb]
  | succ k ih =>
    unfold nb
    split
    · omega
    · simp; omega
def cntO (l : List (List UInt8)) (s : List UInt8) (k : Nat) : Nat := (nb l k).countP (pB s false)
theorem cntO_zero (l : List (List UInt8)) (s : List UInt8) : cntO l s 0 = 0 := by simp [cntO, nb]
theorem cntO_le (l : List (List UInt8)) (s : List UInt8) (k : Nat) : cntO l s k ≤ k := Nat.le_trans List.countP_le_length (nb_length l k)
theorem cntO_succ (l : List (List UInt8)) (s : List UInt8) (k : Nat) : cntO l s (k + 1) = cntO l s k + if (!seen l (l.getD k []) k && decide (l.getD k [] < s)) = true then 1 else 0 := by
  unfold cntO
  rw [nb]
  cases hs : seen l (l.getD k []) k
  · rw [if_neg (by simp), List.countP_append]
    simp [pB]
  · rw [if_pos rfl]; simp
theorem cntO_end (l : List (List UInt8)) (s : List UInt8) : cntO l s l.length = T.plc (T.bk l) s := by
  unfold cntO
  have hp : (nb l l.length).Perm (T.bk l) := (List.perm_ext_iff_of_nodup (nb_nodup l _ (Nat.le_refl _)) (T.up_nodup (T.bk_up l))).2 fun x => by
    rw [nb_mem l x _ (Nat.le_refl _), T.bk_mem, List.take_length]
  rw [hp.countP_eq, count_lt s (T.bk_up l)]
set_option maxHeartbeats 2000000 in
set_option maxRecDepth 100000 in
theorem rplace_any (a : Option Addr) (c : Nat) (l : List (List UInt8)) (s : List UInt8) (w : World) (hm : l.length ≤ 140737488351232) (hs : s.length ≤ maxLen) (hx : ∀ x ∈ l, x.length ≤ maxLen) (hu : Txts w w.heap.size a l) :
    Calls Tryz.prog 132 #[.slice a l.length c, .string (str s)] w fun e w' => e = .returned (.int .i64 (T.plc (T.bk l) s : Nat)) ∧ Below w.heap.size w w' := by
  have HU := Lib.hid hu
  have HTL := Lib.hid (fun k (hk : k < l.length) W => tless_any (l.getD k []) s W (hx _ (tgetD_mem l k hk)) hs)
  have HCE := Lib.hid (cntO_end l s)
  have HC0 := Lib.hid (cntO_zero l s)
  have HCL := Lib.hid (fun k => cntO_le l s k)
  have HCS := Lib.hid (fun k => cntO_succ l s k)
  have HSS := Lib.hid (fun x k h => show (!seen l x (k + 1)) = (!seen l x k && !decide (l.getD k [] = x)) by rw [seen_succ l x k h, Bool.not_or])
  have HS0 := Lib.hid (fun x => show (!seen l x 0) = true by rw [seen_zero]; rfl)
  generalize T.plc (T.bk l) s = P at *
  generalize str s = S at *
  clear hu hx hs
  go_enter Tryz.func132, Tryz.ntmps132
  go_wp2_with fail
  go_loopw [5, 6, 7, 8] (fun n i _ _ wr => ∃ k : Nat, k ≤ l.length ∧ i = .int .i64 k ∧ n = .int .i64 (cntO l s k : Nat) ∧ Below w.heap.size w wr) (fun _ i _ _ _ => l.length - (intOf i).toNat)
  case atStart => exact ⟨0, by omega, rfl, by rw [HC0.out]; rfl, Below.refl _ _⟩
  case round =>
    obtain ⟨k, hk, rfl, rfl, hbw⟩ := hrel
    by_cases hlt : k < l.length
    · obtain ⟨bb, off, rfl, hbb, hcc⟩ := HU.out (fun e => by rw [e] at hlt; simp at hlt)
      have HCC := Lib.hid hcc
      have ck := hcc k hlt
      have hkI : (k : Int) < (l.length : Int) := by omega
      have HT := Lib.hid (HTL.out k hlt)
      have hcs := HCS.out k
      have hcl := HCL.out k
      generalize cntO l s k = n at *
      have HCSK := Lib.hid hcs
      have HTE := Lib.hid (fun y => tl_eq y (l.getD k []))
      generalize l.getD k [] = x at *
      generalize str x = X at *
      clear hcc hcs
      go_wp2_with fail
      go_loopw [7, 8] (fun f i wr2 => ∃ m : Nat, m ≤ k ∧ i = .int .i64 m ∧ f = .bool (!seen l x m) ∧ Below w.heap.size w wr2) (fun _ i _ => k - (intOf i).toNat)
      case atStart => exact ⟨0, by omega, rfl, by rw [HS0.out], hbw⟩
      case round =>
        obtain ⟨m, hmk, rfl, rfl, hbw2⟩ := hrel
        have cx := (hbw2.cell (p := ⟨bb, off + k, none⟩) hbb).trans ck
        by_cases hlt2 : m < k
        · have cm := (hbw2.cell (p := ⟨bb, off + m, none⟩) hbb).trans (HCC.out m (by omega))
          have hss := HSS.out x m (by omega)
          have hte := HTE.out (l.getD m [])
          generalize (!seen l x m) = s0 at *
          generalize decide (l.getD m [] = x) = d at *
          generalize str (l.getD m []) = Y at *
          have HSQ := Lib.hid hss
          have hmI : (m : Int) < (k : Int) := by omega
          have hmI2 : (m : Int) < (l.length : Int) := by omega
          have hte2 : (Y.toList != X.toList) = !d := by unfold bne; rw [hte]
          clear hss
          cases s0
          rotate_left
          · cases d
            all_goals
              go_wp2_with fail
              go_quiet (fail)
              go_wp2_with fail
              exact ⟨⟨m + 1, by omega, by go_num, by rw [HSQ.out]; rfl, below_drewN hbw2 _⟩, by simp [intOf]; omega⟩
          · go_wp2_with fail
            go_quiet (fail)
            go_wp2_with fail
            exact ⟨⟨m + 1, by omega, by go_num, by rw [HSQ.out]; rfl, below_drewN hbw2 _⟩, by simp [intOf]; omega⟩
        · obtain rfl : m = k := by omega
          generalize (!seen l x m) = s0 at *
          generalize decide (x < s) = d at *
          cases s0
          rotate_left
          · cases d
            · go_wp2_with fail
              refine (HT.out _).mono ?_
              rintro e w1 ⟨rfl, d, rfl⟩
              go_wp2_with fail
              exact ⟨⟨m + 1, by omega, by go_num, by rw [HCSK.out]; rfl, below_drewN hbw2 _⟩, by simp [intOf]; omega⟩
            · go_wp2_with fail
              refine (HT.out _).mono ?_
              rintro e w1 ⟨rfl, d, rfl⟩
              go_wp2_with fail
              exact ⟨⟨m + 1, by omega, by go_num, by rw [HCSK.out]; go_num, below_drewN hbw2 _⟩, by simp [intOf]; omega⟩
          · go_wp2_with fail
            exact ⟨⟨m + 1, by omega, by go_num, by rw [HCSK.out]; rfl, hbw2⟩, by simp [intOf]; omega⟩
    · obtain rfl : k = l.length := by omega
      rw [HCE.out]
      go_wp2_with fail
      go_ret
      exact ⟨rfl, hbw⟩
end Go.Proofs.YtcachhnhncodoaaGreat
namespace Go.Proofs.YtcachhnhncodoaaGreat
open Go.RowKit
set_option linter.unusedVariables false
def moR (f : List UInt8 → Nat) (l : List (List UInt8)) (k : Nat) : Nat := (l.take k).foldl (fun m x => max m (f x + 1)) 0
theorem moR_succ (f : List UInt8 → Nat) (l : List (List UInt8)) (k : Nat) (hk : k < l.length) : moR f l (k + 1) = max (moR f l k) (f (l.getD k []) + 1) := by
  unfold moR; rw [ttake_succ l k hk, List.foldl_append]; rfl
theorem moR_end (l : List (List UInt8)) : moR (T.plc (T.bk l)) l l.length = (T.bk l).length := by
  have up : ∀ k, k ≤ l.length → moR (T.plc (T.bk l)) l k ≤ (T.bk l).length ∧ ∀ i, i < k → T.plc (T.bk l) (l.getD i []) + 1 ≤ moR (T.plc (T.bk l)) l k := by
    intro k
    induction k with
    | zero => intro _; exact ⟨by simp [moR], fun i hi => absurd hi (by omega)⟩
    | succ k ih =>
      intro h
      obtain ⟨h1, h2⟩ := ih (by omega)
      rw [moR_succ _ l k (by omega)]
      have h3 := (code_lt (tgetD_mem l k (by omega))).1
      refine ⟨by omega, fun i hi => ?_⟩
      by_cases e : i = k
      · subst e; omega
      · have := h2 i (by omega); omega
  obtain ⟨h1, h2⟩ := up l.length (Nat.le_refl _)
  rcases Nat.eq_zero_or_pos (T.bk l).length with h0 | h0
  · omega
  · have hlt : (T.bk l).length - 1 < (T.bk l).length := by omega
    have hm : (T.bk l)[(T.bk l).length - 1] ∈ l := (T.bk_mem l _).1 (List.getElem_mem hlt)
    obtain ⟨i, hi, e⟩ := List.mem_iff_getElem.1 hm
    have h3 := h2 i hi
    have e2 : l.getD i [] = (T.bk l)[(T.bk l).length - 1] := by rw [getD_get _ _ hi]; exact e
    rw [e2, T.plc_at (T.bk_up l) hlt] at h3
    omega
def Miss (f : List UInt8 → Nat) (l : List (List UInt8)) (k q : Nat) (got : Bool) : Prop := got = false → ∀ i, q ≤ i → i < l.length → f (l.getD i []) ≠ k
theorem Miss.down {f : List UInt8 → Nat} {l : List (List UInt8)} {k r : Nat} {got : Bool} (h : Miss f l k (r + 1) got) (hne : f (l.getD r []) ≠ k) : Miss f l k r got := by
  intro hg i hi hl
  by_cases e : i = r
  · rw [e]; exact hne
  · exact h hg i (by omega) hl
theorem Miss.got {f : List UInt8 → Nat} {l : List (List UInt8)} {k r : Nat} : Miss f l k r true := fun h => by cases h
theorem miss_none {l : List (List UInt8)} {k : Nat} {got : Bool} (hk : k < (T.bk l).length) (h : Miss (T.plc (T.bk l)) l k 0 got) : got = true := by
  cases got with
  | true => rfl
  | false =>
    have hm : (T.bk l)[k] ∈ l := (T.bk_mem l _).1 (List.getElem_mem hk)
    obtain ⟨i, hi, e⟩ := List.mem_iff_getElem.1 hm
    refine absurd ?_ (h rfl i (by omega) hi)
    rw [getD_get _ _ hi, e, T.plc_at (T.bk_up l) hk]
def bkTo (b : List (List UInt8)) (k : Nat) (got : Bool) : List (List UInt8) := b.take (if got then k + 1 else k)
theorem bkTo_put {b : List (List UInt8)} {k : Nat} (hk : k < b.length) : bkTo b k true = bkTo b k false ++ [b.getD k []] := by
  unfold bkTo; simp only [if_true]; exact ttake_succ b k hk
def BookOfPost (l : List (List UInt8)) (w : World) (e : Ending) (w' : World) : Prop :=
  ∃ a c a2 c2, e = .returned (.tuple #[.slice a (T.bk l).length c, .slice a2 l.length c2]) ∧ Txts w' w'.heap.size a (T.bk l) ∧ Nums w' w'.heap.size a2 (l.map (T.plc (T.bk l))) ∧ Below w.heap.size w w'
set_option maxHeartbeats 4000000 in
set_option maxRecDepth 100000 in
theorem rbook_any (a : Option Addr) (c : Nat) (l : List (List UInt8)) (w : World) (hm : l.length * 16 ≤ 140737488351232) (hx : ∀ x ∈ l, x.length ≤ maxLen) (hu : Txts w w.heap.size a l) :
    Calls Tryz.prog 103 #[.slice a l.length c] w (BookOfPost l w) := by
  have HU := Lib.hid hu
  have HPL := Lib.hid (fun k (hk : k < l.length) W h => rplace_any a c l (l.getD k []) W (by omega) (hx _ (tgetD_mem l k hk)) hx h)
  have hbl := bk_length l
  have HMS := Lib.hid (fun k h => moR_succ (T.plc (T.bk l)) l k h)
  have HME := Lib.hid (moR_end l)
  have HCL := Lib.hid (fun k (hk : k < l.length) => (code_lt (tgetD_mem l k hk)).1)
  have HCG := Lib.hid (fun k (hk : k < l.length) => (code_lt (tgetD_mem l k hk)).2)
  have HMN := Lib.hid (fun k got (hk : k < (T.bk l).length) h => miss_none (l := l) (k := k) (got := got) hk h)
  have HM0 := Lib.hid (show moR (T.plc (T.bk l)) l 0 = 0 by simp [moR])
  unfold BookOfPost
  generalize hf : T.plc (T.bk l) = f at *
  generalize T.bk l = b at *
  have HST := Lib.hid (fun j (h : j < l.length) => show (l.take (j + 1)).map f = (l.take j).map f ++ [f (l.getD j [])] by
    rw [ttake_succ l j h, List.map_append]; rfl)
  have HLN := Lib.hid (fun j (h : j ≤ l.length) => show ((l.take j).map f).length = j by simp; omega)
  have HCA := Lib.hid (fun j (h : j < l.length) => code_at f l j h)
  have HML := Lib.hid (show (l.map f).length = l.length by simp)
  have HEND := Lib.hid (show (l.take l.length).map f = l.map f by rw [List.take_length])
  have HBP := Lib.hid (fun k (h : k < b.length) => bkTo_put (b := b) (k := k) h)
  have HB0 := Lib.hid (fun k => show b.take k = bkTo b k false from rfl)
  have HB1 := Lib.hid (fun k => show b.take (k + 1) = bkTo b k true from rfl)
  have HBL := Lib.hid (fun k (got : Bool) (h : k < b.length) => show (bkTo b k got).length = if got then k + 1 else k by
    cases got <;> simp [bkTo] <;> omega)
  have HBT := Lib.hid (show b.take b.length = b from List.take_length)
  clear hu hx hf
  go_enter Tryz.func103, Tryz.ntmps103
  go_wp2_with fail
  go_loopw [4, 5, 6, 7] (fun v most i _ wr => ∃ (j : Nat) (M : Int), j ≤ l.length ∧ i = .int .i64 j ∧ most = .int .i64 M ∧ Hid (M = (moR f l j : Int) - 1) ∧ NumRow w.heap.size ((l.take j).map f) v wr ∧ Below w.heap.size w wr) (fun _ _ i _ _ => l.length - (intOf i).toNat)
  case atStart => exact ⟨0, -1, by omega, rfl, rfl, Lib.hid (by rw [HM0.out]; rfl), ⟨rfl, Or.inl ⟨rfl, rfl⟩⟩, Below.refl _ _⟩
  case round =>
    obtain ⟨j, M, hj, rfl, rfl, HM, hrow, hbw⟩ := hrel
    by_cases hlt : j < l.length
    · obtain ⟨bb, off, rfl, hbb, hcc⟩ := HU.out (fun e => by rw [e] at hlt; simp at hlt)
      have cj := (hbw.cell (p := ⟨bb, off + j, none⟩) hbb).trans (hcc j hlt)
      have HPJ := Lib.hid (HPL.out j hlt)
      have hpb := HCL.out j hlt
      have HS := Lib.hid (HST.out j hlt)
      have hln := HLN.out j hj
      have HMJ := Lib.hid (HMS.out j hlt)
      have hjI : (j : Int) < (l.length : Int) := by omega
      generalize f (l.getD j []) = p at *
      generalize (l.take j).map f = acc at *
      generalize str (l.getD j []) = X at *
      have gw : IntKind.u64.wrap (p : Int) = (p : Int) := by rw [IntKind.wrap_u64]; omega
      have hlb : (acc.length + 1) * 8 ≤ 140737488355328 := by omega
      have hown : wr.ownsRow w.heap.size 34 1 u4 acc.length (nv acc) := hrow
      have HOWN := Lib.hid hown
      have HUN := Lib.hid (HU.out.next hbw)
      have HBW := Lib.hid hbw
      have hM0 := HM.out
      have HMM := Lib.hid (show (M < (p : Int)) → ((p : Int) = (moR f l (j + 1) : Int) - 1) by rw [HMJ.out]; omega)
      have HMX := Lib.hid (show ¬ (M < (p : Int)) → (M = (moR f l (j + 1) : Int) - 1) by rw [HMJ.out]; omega)
      clear hrow hown hln hcc hbw hM0
      by_cases hMp : M < (p : Int)
      · have g1 : decide (M < (p : Int)) = true := decide_eq_true hMp
        have HN1 := Lib.hid (HMM.out hMp)
        clear hMp
        go_wp2_with fail
        refine (HPJ.out _ HUN.out).mono ?_
        rintro e w4 ⟨rfl, hb4⟩
        have hbw4 := below_then HBW.out hb4
        have HOWN4 := Lib.hid (row_below HOWN.out hb4)
        go_wp2_with (at_builtin; refine wpList_append_one rfl (.tmp 23) (.tmp 26) rfl w.heap.size _ acc.length _ rfl (HOWN4.out.alloc _) w4.heap.size p rfl (World.cell?_alloc_new _ _ _ _) hlb (by have := hbw4.size; simp; omega) ?_)
        intro v' w5 hown5 hgrow5
        have hbw5 : Below w.heap.size w w5 := (hbw4.alloc hbw4.size _).grown hgrow5 (by have := hbw4.size; simp; omega) (fun k hk => (HOWN4.out.lt k hk).1)
        go_wp2_with fail
        refine ⟨⟨j + 1, (p : Int), by omega, by go_num, rfl, HN1, ?_, hbw5⟩, by simp [intOf]; omega⟩
        rw [HS.out]; unfold NumRow; rw [List.length_append]; simpa [nv] using hown5
      · have g1 : decide (M < (p : Int)) = false := decide_eq_false hMp
        have HN1 := Lib.hid (HMX.out hMp)
        clear hMp
        go_wp2_with fail
        refine (HPJ.out _ HUN.out).mono ?_
        rintro e w4 ⟨rfl, hb4⟩
        have hbw4 := below_then HBW.out hb4
        have HOWN4 := Lib.hid (row_below HOWN.out hb4)
        go_wp2_with (at_builtin; refine wpList_append_one rfl (.tmp 23) (.tmp 26) rfl w.heap.size _ acc.length _ rfl (HOWN4.out.alloc _) w4.heap.size p rfl (World.cell?_alloc_new _ _ _ _) hlb (by have := hbw4.size; simp; omega) ?_)
        intro v' w5 hown5 hgrow5
        have hbw5 : Below w.heap.size w w5 := (hbw4.alloc hbw4.size _).grown hgrow5 (by have := hbw4.size; simp; omega) (fun k hk => (HOWN4.out.lt k hk).1)
        go_wp2_with fail
        refine ⟨⟨j + 1, M, by omega, by go_num, rfl, HN1, ?_, hbw5⟩, by simp [intOf]; omega⟩
        rw [HS.out]; unfold NumRow; rw [List.length_append]; simpa [nv] using hown5
    · obtain rfl : j = l.length := by omega
      rw [HEND.out] at hrow
      have hM := HM.out
      rw [HME.out] at hM
      have HMB := Lib.hid hM
      obtain ⟨a2, c2, rfl, hn⟩ := numRow_nums hrow
      obtain ⟨w2, hw2⟩ : ∃ w2, w2 = wr := ⟨_, rfl⟩
      subst hw2
      have HN := Lib.hid hn
      have HU2 := Lib.hid (HU.out.next hbw)
      have HBW := Lib.hid hbw
      generalize hcs : l.map f = cs at *
      have HCSE := Lib.hid hcs
      have HCSL := Lib.hid HML.out
      clear hrow hn hM hbw HM hcs
      go_wp2_with fail
      go_loopw [8, 9, 10] (fun v n _ wr2 => ∃ k : Nat, k ≤ b.length ∧ n = .int .i64 k ∧ TRow w2.heap.size (b.take k) v wr2 ∧ Below w2.heap.size w2 wr2) (fun _ n _ _ => b.length - (intOf n).toNat)
      case atStart => exact ⟨0, by omega, rfl, tnilRow _ _, Below.refl _ _⟩
      case round =>
        obtain ⟨k, hk, rfl, hrow, hbw⟩ := hrel
        by_cases hlt : k < b.length
        · have g1 : decide ((k : Int) ≤ M) = true := decide_eq_true (by have := HMB.out; omega)
          have HBPK := Lib.hid (HBP.out k hlt)
          have HBLK := Lib.hid (fun got => HBL.out k got hlt)
          have HMNK := Lib.hid (fun got h => HMN.out k got hlt h)
          have gw1 : IntKind.i64.wrap ((l.length : Int) - 1) = (l.length : Int) - 1 := by rw [IntKind.wrap_i64]; omega
          rw [HB0.out] at hrow
          have HROW0 := Lib.hid hrow
          have HBW0 := Lib.hid hbw
          clear hrow hbw
          go_wp2_with fail
          go_loopw [8, 10] (fun v i wr3 => ∃ (q : Nat) (I : Int) (got : Bool), q ≤ l.length ∧ i = .int .i64 I ∧ I = (q : Int) - 1 ∧ Hid (Miss f l k q got) ∧ TRow w2.heap.size (bkTo b k got) v wr3 ∧ Below w2.heap.size w2 wr3) (fun _ i _ => (intOf i + 1).toNat)
          case atStart => exact ⟨l.length, (l.length : Int) - 1, false, by omega, rfl, rfl, Lib.hid (fun _ i h1 h2 => absurd h2 (by omega)), HROW0.out, HBW0.out⟩
          case round =>
            obtain ⟨q, I, got, hq, rfl, hI, HMI, hrow, hbw⟩ := hrel
            by_cases h0 : 0 < q
            · obtain ⟨r, rfl⟩ : ∃ r, q = r + 1 := ⟨q - 1, by omega⟩
              obtain rfl : I = (r : Int) := by omega
              have hr : r < l.length := by omega
              obtain ⟨b1, o1, rfl, hb1l, hcc1⟩ := HU2.out (fun e => by rw [e] at hr; simp at hr)
              obtain ⟨b2, o2, rfl, hb2l, hcc2⟩ := HN.out (fun e => by have := HCSL.out; rw [e] at this; simp at this; omega)
              have cx := (hbw.cell (p := ⟨b1, o1 + r, none⟩) hb1l).trans (hcc1 r hr)
              have cc := (hbw.cell (p := ⟨b2, o2 + r, none⟩) hb2l).trans (hcc2 r (by have := HCSL.out; omega))
              rw [HCA.out r hr] at cc
              have hpb := HCL.out r hr
              have hpg := HCG.out r hr
              have HMD := Lib.hid (fun h => HMI.out.down h)
              have gw2 : IntKind.i64.wrap ((r : Int) - 1) = (r : Int) - 1 := by rw [IntKind.wrap_i64]; omega
              have grI : (r : Int) < (l.length : Int) := by omega
              have gr0 : (0 : Int) ≤ (r : Int) := by omega
              have grC : (r : Int) < (cs.length : Int) := by have := HCSL.out; omega
              generalize f (l.getD r []) = p at *
              have gw3 : IntKind.i64.wrap (p : Int) = (p : Int) := by rw [IntKind.wrap_i64]; omega
              obtain ⟨a', c', rfl, _⟩ := tRow_txts hrow
              have hbln := HBLK.out got
              have HBLN := Lib.hid hbln
              have HBW := Lib.hid hbw
              have HROW := Lib.hid hrow
              clear hcc1 hcc2 hI hbw hrow hbln
              by_cases hpk : p = k
              · have g2 : ((p : Int) == (k : Int)) = true := by rw [beq_iff_eq]; omega
                have HPG := Lib.hid (show l.getD r [] = b.getD k [] by rw [← hpk]; exact hpg.symm)
                cases got
                · rw [HPG.out] at cx
                  generalize hacc : bkTo b k false = acc at *
                  generalize b.getD k [] = y at *
                  have g3 : ((acc.length : Int) == (k : Int)) = true := by have := HBLN.out; simp at this; rw [beq_iff_eq]; omega
                  have hlb : (acc.length + 1) * 16 ≤ 140737488355328 := by have := HBLN.out; simp at this; omega
                  generalize hY : str y = Y at *
                  have HY := Lib.hid hY
                  clear hacc hpk hpg hY
                  go_wp2_with (at_builtin; refine wpList_append_onet rfl (.tmp 57) (.tmp 62) rfl w2.heap.size _ acc rfl (HROW.out.alloc_ _) wr.heap.size y rfl (by rw [HY.out]; exact World.cell?_alloc_new _ _ _ _) hlb (by have := HBW.out.size; simp; omega) ?_)
                  intro v' w5 hown5 hb5w
                  have hbw5 : Below w2.heap.size w2 w5 := (HBW.out.alloc HBW.out.size _).trans hb5w
                  go_wp2_with fail
                  exact ⟨⟨r, (r : Int) - 1, true, by omega, by go_num, rfl, Lib.hid Miss.got, by rw [HBPK.out]; exact hown5, hbw5⟩, by simp [intOf]⟩
                · have g3 : (((bkTo b k true).length : Int) == (k : Int)) = false := by have := HBLN.out; simp at this; rw [beq_eq_false_iff_ne]; omega
                  clear hpk hpg
                  go_wp2_with fail
                  exact ⟨⟨r, (r : Int) - 1, true, by omega, by go_num, rfl, Lib.hid Miss.got, HROW.out, HBW.out⟩, by simp [intOf]⟩
              · have g2 : ((p : Int) == (k : Int)) = false := by rw [beq_eq_false_iff_ne]; omega
                have HN1 := Lib.hid (HMD.out hpk)
                clear hpk hpg
                go_wp2_with fail
                exact ⟨⟨r, (r : Int) - 1, got, by omega, by go_num, rfl, HN1, HROW.out, HBW.out⟩, by simp [intOf]⟩
            · obtain rfl : q = 0 := by omega
              have gI : decide ((0 : Int) ≤ I) = false := decide_eq_false (by omega)
              have hg := HMNK.out got HMI.out
              subst hg
              rw [← HB1.out] at hrow
              go_wp2_with fail
              exact ⟨⟨k + 1, by omega, by go_num, hrow, hbw⟩, by simp [intOf]; omega⟩
        · obtain rfl : k = b.length := by omega
          have g1 : decide ((b.length : Int) ≤ M) = false := decide_eq_false (by have := HMB.out; omega)
          rw [HBT.out] at hrow
          obtain ⟨a', c', rfl, ht, _⟩ := tRow_txts hrow
          have HT := Lib.hid ht
          have HBW2 := Lib.hid hbw
          clear hrow ht hbw
          go_wp2_with fail
          go_ret2
          exact ⟨a', c', a2, c2, by rw [HCSL.out]; rfl, HT.out, by rw [HCSE.out]; exact HN.out.next HBW2.out, below_then HBW.out HBW2.out⟩
end Go.Proofs.YtcachhnhncodoaaGreat
namespace Go.Proofs.YtcachhnhncodoaaGreat.F
set_option linter.unusedVariables false
abbrev Tx := List UInt8
def sh : Tx → Tx → Nat
  | x :: s, y :: t => if x = y then sh s t + 1 else 0
  | _, _ => 0
theorem sh_nil_left (b : Tx) : sh [] b = 0 := by cases b <;> rfl
theorem sh_nil_right (a : Tx) : sh a [] = 0 := by cases a <;> rfl
theorem sh_cons_eq (x : UInt8) (s t : Tx) : sh (x :: s) (x :: t) = sh s t + 1 := by rw [sh, if_pos rfl]
theorem sh_cons_ne {x y : UInt8} (h : x ≠ y) (s t : Tx) : sh (x :: s) (y :: t) = 0 := by rw [sh, if_neg h]
theorem sh_comm : ∀ a b : Tx, sh a b = sh b a := by
  intro a
  induction a with
  | nil => intro b; rw [sh_nil_left, sh_nil_right]
  | cons x s ih =>
    intro b
    cases b with
    | nil => rfl
    | cons y t =>
      by_cases h : x = y
      · subst h; rw [sh_cons_eq, sh_cons_eq, ih]
      · rw [sh_cons_ne h, sh_cons_ne (fun e => h e.symm)]
theorem sh_le_left : ∀ a b : Tx, sh a b ≤ a.length := by
  intro a
  induction a with
  | nil => intro b; rw [sh_nil_left]; exact Nat.zero_le _
  | cons x s ih =>
    intro b
    cases b with
    | nil => rw [sh_nil_right]; exact Nat.zero_le _
    | cons y t =>
      by_cases h : x = y
      · subst h; rw [sh_cons_eq]; have := ih t; simp; omega
      · rw [sh_cons_ne h]; exact Nat.zero_le _
theorem sh_le_right (a b : Tx) : sh a b ≤ b.length := by rw [sh_comm]; exact sh_le_left b a
theorem sh_take : ∀ a b : Tx, a.take (sh a b) = b.take (sh a b) := by
  intro a
  induction a with
  | nil => intro b; rw [sh_nil_left]; simp
  | cons x s ih =>
    intro b
    cases b with
    | nil => rw [sh_nil_right]; simp
    | cons y t =>
      by_cases h : x = y
      · subst h; rw [sh_cons_eq, List.take_succ_cons, List.take_succ_cons, ih]
      · rw [sh_cons_ne h]; simp
theorem sh_ge : ∀ (n : Nat) (a b : Tx), n ≤ a.length → n ≤ b.length → a.take n = b.take n → n ≤ sh a b := by
  intro n
  induction n with
  | zero => intros; exact Nat.zero_le _
  | succ n ih =>
    intro a b ha hb h
    cases a with
    | nil => simp at ha
    | cons x s =>
      cases b with
      | nil => simp at hb
      | cons y t =>
        rw [List.take_succ_cons, List.take_succ_cons] at h
        injection h with h1 h2
        subst h1
        rw [sh_cons_eq]
        have := ih s t (by simpa using ha) (by simpa using hb) h2
        omega
def fb : Tx → List Tx → List UInt8
  | _, [] => []
  | last, x :: t => V.enc (sh last x) ++ V.enc (x.length - sh last x) ++ x.drop (sh last x) ++ fb x t
theorem fb_snoc : ∀ (l : List Tx) (last x : Tx), fb last (l ++ [x]) = fb last l ++ (V.enc (sh (l.getLastD last) x) ++ V.enc (x.length - sh (l.getLastD last) x) ++ x.drop (sh (l.getLastD last) x)) := by
  intro l
  induction l with
  | nil => intro last x; simp [fb]
  | cons y t ih =>
    intro last x
    rw [List.cons_append, fb, ih, fb]
    have e : (y :: t).getLastD last = t.getLastD y := by cases t <;> rfl
    rw [e]
    simp only [List.append_assoc]
def fl : Tx → List Tx → Nat
  | _, [] => 0
  | last, x :: t => 2 + (x.length - sh last x) + fl x t
theorem enc_one {n : Nat} (h : n < 128) : (V.enc n).length = 1 := by
  rw [V.enc_length]; have := V.sz_spec n; omega
theorem fb_length : ∀ (l : List Tx) (last : Tx), (∀ x ∈ l, x.length ≤ 16) → (fb last l).length = fl last l := by
  intro l
  induction l with
  | nil => intro last _; rfl
  | cons x t ih =>
    intro last h
    have hx := h x (by simp)
    have hs := sh_le_right last x
    rw [fb, fl, List.length_append, List.length_append, List.length_append, enc_one (by omega), enc_one (by omega), List.length_drop, ih x (fun y hy => h y (by simp [hy]))]
def fr : Nat → Tx → List UInt8 → List Tx × Nat
  | 0, _, s => if s = [] then ([], 0) else ([], 1)
  | k + 1, last, s =>
    if (V.rd s).2.2 ≠ 0 then ([], (V.rd s).2.2)
    else if (V.rd (s.drop (V.rd s).2.1)).2.2 ≠ 0 then ([], (V.rd (s.drop (V.rd s).2.1)).2.2)
    else if last.length < (V.rd s).1 then ([], 3)
    else if 16 < (V.rd s).1 + (V.rd (s.drop (V.rd s).2.1)).1 then ([], 2)
    else if (s.drop ((V.rd s).2.1 + (V.rd (s.drop (V.rd s).2.1)).2.1)).length < (V.rd (s.drop (V.rd s).2.1)).1 then ([], 5)
    else if sh last (last.take (V.rd s).1 ++ (s.drop ((V.rd s).2.1 + (V.rd (s.drop (V.rd s).2.1)).2.1)).take (V.rd (s.drop (V.rd s).2.1)).1) ≠ (V.rd s).1 then ([], 1)
    else
      let t := last.take (V.rd s).1 ++ (s.drop ((V.rd s).2.1 + (V.rd (s.drop (V.rd s).2.1)).2.1)).take (V.rd (s.drop (V.rd s).2.1)).1
      let z := fr k t ((s.drop ((V.rd s).2.1 + (V.rd (s.drop (V.rd s).2.1)).2.1)).drop (V.rd (s.drop (V.rd s).2.1)).1)
      if z.2 ≠ 0 then ([], z.2) else (t :: z.1, 0)
theorem take_share {last x : Tx} : last.take (sh last x) ++ x.drop (sh last x) = x := by
  rw [sh_take, List.take_append_drop]
theorem fr_fb : ∀ (l : List Tx) (last : Tx), (∀ x ∈ l, x.length ≤ 16) → fr l.length last (fb last l) = (l, 0) := by
  intro l
  induction l with
  | nil => intro last _; rfl
  | cons x t ih =>
    intro last h
    have hx := h x (by simp)
    have hs := sh_le_right last x
    have hs2 := sh_le_left last x
    have r1 : V.rd (fb last (x :: t)) = (sh last x, V.sz (sh last x), 0) := by
      rw [fb, List.append_assoc, List.append_assoc]; exact V.rd_enc _ (by omega) _
    have d1 : (fb last (x :: t)).drop (V.sz (sh last x)) = V.enc (x.length - sh last x) ++ (x.drop (sh last x) ++ fb x t) := by
      rw [fb, List.append_assoc, List.append_assoc, List.drop_left' (V.enc_length _)]
    have r2 := V.rd_enc (x.length - sh last x) (by omega) (x.drop (sh last x) ++ fb x t)
    have d2 : (fb last (x :: t)).drop (V.sz (sh last x) + V.sz (x.length - sh last x)) = x.drop (sh last x) ++ fb x t := by
      rw [← List.drop_drop, d1, List.drop_left' (V.enc_length _)]
    have t2 : (x.drop (sh last x) ++ fb x t).take (x.length - sh last x) = x.drop (sh last x) := List.take_left' (by simp)
    have t3 : (x.drop (sh last x) ++ fb x t).drop (x.length - sh last x) = fb x t := List.drop_left' (by simp)
    have hi := ih x (fun y hy => h y (by simp [hy]))
    rw [List.length_cons, fr]
    simp only [r1, d1, r2, d2, t2, t3, take_share, hi]
    rw [if_neg (by simp), if_neg (by simp), if_neg (by omega), if_neg (by omega), if_neg (by simp), if_neg (by simp), if_neg (by simp)]
theorem fr_ok : ∀ (k : Nat) (last : Tx) (s : List UInt8) (l : List Tx), fr k last s = (l, 0) → fb last l = s ∧ l.length = k ∧ ∀ x ∈ l, x.length ≤ 16 := by
  intro k
  induction k with
  | zero =>
    intro last s l h
    rw [fr] at h
    by_cases hs : s = []
    · rw [if_pos hs] at h
      obtain rfl : l = [] := ((Prod.mk.injEq _ _ _ _).mp h).1.symm
      exact ⟨by rw [hs]; rfl, rfl, by simp⟩
    · rw [if_neg hs] at h
      exact absurd ((Prod.mk.injEq _ _ _ _).mp h).2 (by decide)
  | succ k ih =>
    intro last s l h
    rw [fr] at h
    have no : ∀ e : Nat, e ≠ 0 → (([], e) : List Tx × Nat) = (l, 0) → False := fun e he hh => he ((Prod.mk.injEq _ _ _ _).mp hh).2
    by_cases h1 : (V.rd s).2.2 ≠ 0
    · rw [if_pos h1] at h; exact (no _ h1 h).elim
    rw [if_neg h1] at h
    by_cases h2 : (V.rd (s.drop (V.rd s).2.1)).2.2 ≠ 0
    · rw [if_pos h2] at h; exact (no _ h2 h).elim
    rw [if_neg h2] at h
    by_cases h3 : last.length < (V.rd s).1
    · rw [if_pos h3] at h; exact (no _ (by decide) h).elim
    rw [if_neg h3] at h
    by_cases h4 : 16 < (V.rd s).1 + (V.rd (s.drop (V.rd s).2.1)).1
    · rw [if_pos h4] at h; exact (no _ (by decide) h).elim
    rw [if_neg h4] at h
    by_cases h5 : (s.drop ((V.rd s).2.1 + (V.rd (s.drop (V.rd s).2.1)).2.1)).length < (V.rd (s.drop (V.rd s).2.1)).1
    · rw [if_pos h5] at h; exact (no _ (by decide) h).elim
    rw [if_neg h5] at h
    obtain ⟨n, a, e, hr⟩ : ∃ n a e, V.rd s = (n, a, e) := ⟨_, _, _, rfl⟩
    rw [hr] at h h1 h2 h3 h4 h5
    simp only at h h1 h2 h3 h4 h5
    obtain ⟨m, b, f, hq⟩ : ∃ m b f, V.rd (s.drop a) = (m, b, f) := ⟨_, _, _, rfl⟩
    rw [hq] at h h2 h4 h5
    simp only at h h2 h4 h5
    obtain rfl : e = 0 := by omega
    obtain rfl : f = 0 := by omega
    obtain ⟨_, ha, ea, _, _, sa⟩ := V.rd_ok s n a hr
    obtain ⟨_, hb, eb, _, _, sb⟩ := V.rd_ok (s.drop a) m b hq
    obtain ⟨s2, hs2⟩ : ∃ s2, s2 = s.drop (a + b) := ⟨_, rfl⟩
    rw [← hs2] at h h5
    by_cases h6 : sh last (last.take n ++ s2.take m) ≠ n
    · rw [if_pos h6] at h; exact (no _ (by decide) h).elim
    rw [if_neg h6] at h
    have h6' : sh last (last.take n ++ s2.take m) = n := by omega
    obtain ⟨t, ht⟩ : ∃ t, t = last.take n ++ s2.take m := ⟨_, rfl⟩
    rw [← ht] at h h6'
    have tl : t.length = n + m := by rw [ht, List.length_append, List.length_take, List.length_take]; omega
    obtain ⟨z, g, hz⟩ : ∃ z g, fr k t (s2.drop m) = (z, g) := ⟨_, _, rfl⟩
    simp only [hz] at h
    by_cases h7 : g ≠ 0
    · rw [if_pos h7] at h; exact (no _ h7 h).elim
    rw [if_neg h7] at h
    obtain rfl : g = 0 := by omega
    obtain rfl : l = t :: z := ((Prod.mk.injEq _ _ _ _).mp h).1.symm
    obtain ⟨i1, i2, i3⟩ := ih t (s2.drop m) z hz
    refine ⟨?_, by simp [i2], ?_⟩
    · rw [fb, h6', i1, ea, tl, Nat.add_sub_cancel_left, eb]
      have td : t.drop n = s2.take m := by
        rw [ht]; exact List.drop_left' (by rw [List.length_take]; omega)
      rw [td, List.append_assoc, List.append_assoc, List.take_append_drop]
      have : s2 = (s.drop a).drop b := by rw [hs2, List.drop_drop]
      rw [this, List.take_append_drop, List.take_append_drop]
    · intro x hx
      rcases List.mem_cons.1 hx with hx | hx
      · rw [hx, tl]; omega
      · exact i3 x hx
theorem fr_err : ∀ (k : Nat) (last : Tx) (s : List UInt8), (fr k last s).2 ≠ 0 → (fr k last s).1 = [] := by
  intro k
  cases k with
  | zero => intro last s h; rw [fr] at h ⊢; split at h <;> split <;> simp_all
  | succ k =>
    intro last s h
    rw [fr] at h ⊢
    by_cases h1 : (V.rd s).2.2 ≠ 0
    · rw [if_pos h1]
    rw [if_neg h1] at h ⊢
    by_cases h2 : (V.rd (s.drop (V.rd s).2.1)).2.2 ≠ 0
    · rw [if_pos h2]
    rw [if_neg h2] at h ⊢
    by_cases h3 : last.length < (V.rd s).1
    · rw [if_pos h3]
    rw [if_neg h3] at h ⊢
    by_cases h4 : 16 < (V.rd s).1 + (V.rd (s.drop (V.rd s).2.1)).1
    · rw [if_pos h4]
    rw [if_neg h4] at h ⊢
    by_cases h5 : (s.drop ((V.rd s).2.1 + (V.rd (s.drop (V.rd s).2.1)).2.1)).length < (V.rd (s.drop (V.rd s).2.1)).1
    · rw [if_pos h5]
    rw [if_neg h5] at h ⊢
    split at h
    · rename_i h6; rw [if_pos h6]
    · rename_i h6; rw [if_neg h6]
      simp only at h ⊢
      split at h
      · rename_i h7; rw [if_pos h7]
      · exact absurd rfl h
end Go.Proofs.YtcachhnhncodoaaGreat.F
namespace Go.Proofs.YtcachhnhncodoaaGreat
open Go.RowKit
set_option linter.unusedVariables false
theorem sh_step_eq (x y : List UInt8) (k : Nat) (h1 : k < x.length) (h2 : k < y.length) (e : x[k] = y[k]) : F.sh (x.drop k) (y.drop k) = F.sh (x.drop (k + 1)) (y.drop (k + 1)) + 1 := by
  rw [List.drop_eq_getElem_cons h1, List.drop_eq_getElem_cons h2, e, F.sh_cons_eq]
theorem sh_step_ne (x y : List UInt8) (k : Nat) (h1 : k < x.length) (h2 : k < y.length) (e : x[k] ≠ y[k]) : F.sh (x.drop k) (y.drop k) = 0 := by
  rw [List.drop_eq_getElem_cons h1, List.drop_eq_getElem_cons h2, F.sh_cons_ne e]
theorem sh_step_end (x y : List UInt8) (k : Nat) (h : k = x.length ∨ k = y.length) : F.sh (x.drop k) (y.drop k) = 0 := by
  rcases h with h | h
  · rw [h, List.drop_length, F.sh_nil_left]
  · rw [h, List.drop_length, F.sh_nil_right]
set_option maxHeartbeats 1000000 in
set_option maxRecDepth 100000 in
theorem shared_core (x y : List UInt8) (X Y : ByteArray) (w : World) (hx : x.length ≤ 9223372036854775807) (hy : y.length ≤ 9223372036854775807) (hsx : X.size = x.length) (hsy : Y.size = y.length)
    (hxa : ∀ i (h : i < X.size) (h2 : i < x.length), X[i] = x[i]) (hya : ∀ i (h : i < Y.size) (h2 : i < y.length), Y[i] = y[i]) :
    Calls Tryz.prog 172 #[.string X, .string Y] w fun e w' => e = .returned (.int .i64 (F.sh x y : Nat)) ∧ ∃ d, w' = w.drewN d := by
  have HXA := Lib.hid hxa
  have HYA := Lib.hid hya
  clear hxa hya
  obtain ⟨R, hR⟩ : ∃ R, R = F.sh x y := ⟨_, rfl⟩
  have HD0 := Lib.hid (show R = 0 + F.sh (x.drop 0) (y.drop 0) by rw [hR]; simp)
  rw [← hR]
  have HNE := Lib.hid (fun i h1 h2 e => sh_step_ne x y i h1 h2 e)
  have HEQ := Lib.hid (fun i h1 h2 e => sh_step_eq x y i h1 h2 e)
  have HEN := Lib.hid (fun i h => sh_step_end x y i h)
  clear hR
  have HSX := Lib.hid hsx
  have HSY := Lib.hid hsy
  have hX : X.size ≤ 9223372036854775807 := by omega
  have hY : Y.size ≤ 9223372036854775807 := by omega
  clear hsx hsy hx hy
  obtain ⟨m, hm⟩ : ∃ m : Nat, m = min X.size Y.size := ⟨_, rfl⟩
  have hmi : min (X.size : Int) (Y.size : Int) = (m : Int) := by omega
  have hm1 : m ≤ X.size := by omega
  have hm2 : m ≤ Y.size := by omega
  have HME := Lib.hid (show m = x.length ∨ m = y.length by have := HSX.out; have := HSY.out; omega)
  clear hm
  go_enter Tryz.func172, Tryz.ntmps172
  go_wp2_with fail
  clear hmi
  go_loopw [6, 13] (fun _ i wr => ∃ k d : Nat, k ≤ m ∧ i = .int .i64 k ∧ wr = w.drewN d ∧ Hid (R = k + F.sh (x.drop k) (y.drop k))) (fun _ i _ => m - (intOf i).toNat)
  case atStart => exact ⟨0, 0, by omega, rfl, rfl, HD0⟩
  case round =>
    obtain ⟨k, d, hk, rfl, rfl, HJ⟩ := hrel
    by_cases hlt : k < m
    · have hl1 : k < X.size := by omega
      have hl2 : k < Y.size := by omega
      have h1 : k < x.length := by have := HSX.out; omega
      have h2 : k < y.length := by have := HSY.out; omega
      have ex := HXA.out k hl1 h1
      have ey := HYA.out k hl2 h2
      have hne := HNE.out k h1 h2
      have heq := HEQ.out k h1 h2
      generalize x[k] = p at *
      generalize y[k] = q at *
      have hk1I : (k : Int) < (X.size : Int) := by omega
      have hk2I : (k : Int) < (Y.size : Int) := by omega
      by_cases hpq : p = q
      · have HN1 := Lib.hid (show R = (k + 1) + F.sh (x.drop (k + 1)) (y.drop (k + 1)) by rw [HJ.out, heq hpq]; omega)
        have g1 : ((p.toNat : Int) != (q.toNat : Int)) = false := by subst hpq; simp
        have g2 : ((p.toNat) != (q.toNat)) = false := by subst hpq; simp
        clear hne heq hpq
        go_wp2_with fail
        go_quiet (fail)
        go_wp2_with fail
        exact ⟨⟨k + 1, d + nq, by omega, by go_num, by first | rfl | exact World.drewN_drewN _ _ _, HN1⟩, by simp [intOf]; omega⟩
      · have HN1 := Lib.hid (show R = k by rw [HJ.out, hne hpq, Nat.add_zero])
        have hne2 : ¬ p.toNat = q.toNat := fun e => hpq (UInt8.toNat_inj.1 e)
        have g1 : ((p.toNat : Int) != (q.toNat : Int)) = true := by rw [bne_iff_ne]; omega
        clear hne heq hpq
        go_wp2_with fail
        go_quiet (fail)
        go_wp2_with fail
        go_ret
        exact ⟨by rw [HN1.out]; rfl, _, by first | rfl | simp only [World.drewN_drewN] ; rfl⟩
    · obtain rfl : k = m := by omega
      have HRE := Lib.hid (show R = k by rw [HJ.out, HEN.out k HME.out, Nat.add_zero])
      go_wp2_with fail
      go_ret
      exact ⟨by rw [HRE.out]; rfl, d, rfl⟩
theorem shared_any (x y : List UInt8) (w : World) (hx : x.length ≤ maxLen) (hy : y.length ≤ maxLen) :
    Calls Tryz.prog 172 #[.string (str x), .string (str y)] w fun e w' => e = .returned (.int .i64 (F.sh x y : Nat)) ∧ ∃ d, w' = w.drewN d :=
  shared_core x y (str x) (str y) w (by unfold maxLen at hx; omega) (by unfold maxLen at hy; omega) (str_size x) (str_size y) (fun i h h2 => str_at x i h h2) (fun i h h2 => str_at y i h h2)
end Go.Proofs.YtcachhnhncodoaaGreat
namespace Go.Proofs.YtcachhnhncodoaaGreat
open Go.RowKit
set_option linter.unusedVariables false
theorem sh_stop {x y : List UInt8} {k : Nat} (h1 : F.sh x y ≤ k) (h2 : k ≤ x.length) (h3 : k ≤ y.length) (h : x.take k = y.take k) : F.sh x y = k := by
  have := F.sh_ge k x y h2 h3 h; omega
theorem sh_on {x y : List UInt8} {k : Nat} (h1 : F.sh x y ≤ k) (h : x.take k ≠ y.take k) : F.sh x y ≤ k - 1 ∧ 1 ≤ k := by
  have h2 : F.sh x y ≠ k := fun e => h (by rw [← e]; exact F.sh_take x y)
  have h3 : k ≠ 0 := fun e => h (by rw [e]; simp)
  omega
set_option maxHeartbeats 1000000 in
set_option maxRecDepth 100000 in
theorem sharedOf_any (x y : List UInt8) (w : World) (hx : x.length ≤ maxLen) (hy : y.length ≤ maxLen) :
    Calls Tryz.prog 127 #[.string (str x), .string (str y)] w fun e w' => e = .returned (.int .i64 (F.sh x y : Nat)) ∧ ∃ d, w' = w.drewN d := by
  unfold maxLen at hx hy
  have hsx := str_size x
  have hsy := str_size y
  have H0 := F.sh_le_left x y
  have HT := Lib.hid (fun k => show ((str x).extract 0 k).toList = x.take k by rw [ByteArray.toList_eq, take_data]; rfl)
  have HU := Lib.hid (fun k => show ((str y).extract 0 k).toList = y.take k by rw [ByteArray.toList_eq, take_data]; rfl)
  have HST := Lib.hid (fun k (h1 : F.sh x y ≤ k) (h2 : k ≤ x.length) (h3 : k ≤ y.length) h => sh_stop h1 h2 h3 h)
  have HON := Lib.hid (fun k (h1 : F.sh x y ≤ k) h => sh_on h1 h)
  have HRB := Lib.hid (F.sh_le_right x y)
  generalize F.sh x y = R at *
  generalize str x = X at *
  generalize str y = Y at *
  have HSX := Lib.hid hsx
  have HSY := Lib.hid hsy
  have H0' := Lib.hid (show R ≤ X.size by omega)
  have hX : X.size ≤ 9223372036854775807 := by omega
  have hY : Y.size ≤ 9223372036854775807 := by omega
  clear hsx hsy hx hy H0
  go_enter Tryz.func127, Tryz.ntmps127
  go_wp2_with fail
  go_loopw [5] (fun i wr => ∃ k d : Nat, k ≤ X.size ∧ i = .int .i64 k ∧ wr = w.drewN d ∧ Hid (R ≤ k)) (fun i _ => (intOf i).toNat)
  case atStart => exact ⟨X.size, 0, by omega, rfl, rfl, H0'⟩
  case round =>
    obtain ⟨k, d, hk, rfl, rfl, HJ⟩ := hrel
    have hkI : (k : Int) ≤ (X.size : Int) := by omega
    by_cases hgt : Y.size < k
    · have g1 : decide ((Y.size : Int) < (k : Int)) = true := decide_eq_true (by omega)
      have HN := Lib.hid (show R ≤ k - 1 by have := HRB.out; have := HSY.out; omega)
      have hsub : IntKind.i64.wrap ((k : Int) - 1) = ((k - 1 : Nat) : Int) := by rw [IntKind.wrap_i64]; omega
      go_wp2_with fail
      go_quiet (fail)
      go_wp2_with fail
      exact ⟨⟨k - 1, d + nq, by omega, by congr 1; try omega, by first | rfl | exact World.drewN_drewN _ _ _, HN⟩, by simp [intOf]; omega⟩
    · have g1 : decide (Y.size < k) = false := decide_eq_false (by omega)
      have hk2 : (k : Int) ≤ (Y.size : Int) := by omega
      by_cases hq : x.take k = y.take k
      · have g2 : ((X.extract 0 k).toList == (Y.extract 0 k).toList) = true := by rw [HT.out, HU.out, beq_iff_eq]; exact hq
        have HR := Lib.hid (HST.out k HJ.out (by have := HSX.out; omega) (by have := HSY.out; omega) hq)
        clear hq
        go_wp2_with fail
        go_quiet (fail)
        go_wp2_with fail
        go_ret
        exact ⟨by rw [HR.out]; rfl, _, by first | rfl | simp only [World.drewN_drewN] ; rfl⟩
      · have g2 : ((X.extract 0 k).toList == (Y.extract 0 k).toList) = false := by rw [HT.out, HU.out, beq_eq_false_iff_ne]; exact hq
        obtain ⟨hn, hk1⟩ := HON.out k HJ.out hq
        have HN := Lib.hid hn
        clear hq hn
        go_wp2_with fail
        go_quiet (fail)
        go_wp2_with fail
        exact ⟨⟨k - 1, d + nq, by omega, by congr 1; try omega, by first | rfl | exact World.drewN_drewN _ _ _, HN⟩, by simp [intOf]; omega⟩
end Go.Proofs.YtcachhnhncodoaaGreat
namespace Go.Proofs.YtcachhnhncodoaaGreat
open Go.RowKit
set_option linter.unusedVariables false
def BRow (B : Nat) (xs : List UInt8) (v : Value) (wr : World) : Prop := wr.ownsRow B 5 1 v xs.length (bv xs)
theorem BRow.alloc_ {B : Nat} {xs : List UInt8} {v : Value} {w : World} (h : BRow B xs v w) (o : Obj) : BRow B xs v (w.alloc o) := World.ownsRow.alloc h o
theorem BRow.drew_ {B : Nat} {xs : List UInt8} {v : Value} {w : World} (h : BRow B xs v w) : BRow B xs v w.drew := World.ownsRow.drew h
theorem BRow.below {B : Nat} {xs : List UInt8} {v : Value} {w w' : World} (h : BRow B xs v w) (hb : Below w.heap.size w w') : BRow B xs v w' := row_below h hb
theorem BRow.nil_ (B : Nat) (w : World) : BRow B [] (.slice none 0 0) w := ⟨rfl, Or.inl ⟨rfl, rfl⟩⟩
theorem BRow.far {B : Nat} {xs : List UInt8} {v : Value} {w : World} (h : BRow B xs v w) (g i : Nat) (u : Value) (hg : g < B) : BRow B xs v (w.setCell ⟨g, i, none⟩ u) := by
  refine ownsRow_setCell_other h ?_ u
  intro e
  have := h.lt g e
  omega
theorem run_text0 (w : World) : (convert 42 9 (.slice none 0 0)).run Tryz.prog w = .ok (.string (str [])) w := by kernel_rfl
theorem BRow.text {B : Nat} {xs : List UInt8} {v : Value} {w : World} (h : BRow B xs v w) :
    (convert 42 9 v).run Tryz.prog w = .ok (.string (str xs)) w := by
  unfold BRow at h
  rcases h.2 with ⟨rfl, h0⟩ | ⟨g, cap, cur, rfl, e2, e3, e4⟩
  · obtain rfl := List.eq_nil_of_length_eq_zero h0
    exact run_text0 w
  · rw [← str_of xs]
    refine run_convert_bytes_arg _ 42 5 Tryz.underlying42 Tryz.underlying5 _ 0 xs.length cap _ (by simp) ?_ 9 Tryz.underlying9
    intro i hi
    rw [Nat.zero_add, h.cellAt i (by omega)]
    simp [bv, List.getElem?_eq_getElem hi]
theorem wpList_append_oneb {w : World} {ops : Array Oper} {rest : List Oper} {o : Oper} {a : Act} {Q : Exit → Act → World → Prop} (hgd : o.guard = none) (s x : Operand)
    (ho : o.op = .call { callee := .builtin .append, args := #[s, x], argTypes := #[42, 42] }) (base : Nat)
    (v : Value) (xs : List UInt8) (hs : a.eval s = v) (hown : BRow base xs v w)
    (g : Nat) (y : UInt8) (hx : a.eval x = .slice (some ⟨g, 0, none⟩) 1 1) (hc : w.cell? ⟨g, 0, none⟩ = some (.int .u8 (y.toNat : Int)))
    (hbytes : xs.length + 1 ≤ 140737488355328) (hbase : base ≤ w.heap.size)
    (h : ∀ v' w', BRow base (xs ++ [y]) v' w' → Below base w w' → wpList Tryz.prog ops Q rest (a.put o.dst v') w') : wpList Tryz.prog ops Q (o :: rest) a w := by
  obtain ⟨i, hi, hz0, hz1, hz2⟩ := info_parts info_u8
  refine wpList_append_own w hgd s x 42 ho base 5 i (.int .u8 0) 1 1 Tryz.underlying42 hi hz0 hz1 hz2 rfl (by decide) v xs.length (bv xs) hs hown ⟨g, 0, none⟩ 1 1 [.int .u8 (y.toNat : Int)] hx rfl ?_ ?_ (by unfold maxLen; omega) (by omega) hbase (fun v' w' h1 h2 _ => h v' w' ?_ ?_)
  · intro j u hj
    match j, hj with
    | 0, hj => simp at hj; subst hj; simpa [Addr.add] using hc
  · intro u hu; simp at hu; subst hu; rfl
  · unfold BRow; rw [List.length_append]; simpa [bv] using h1
  · exact (Below.refl base w).grown h2 hbase (fun k hk => (hown.lt k hk).1)
theorem wpList_append_texts {w : World} {ops : Array Oper} {rest : List Oper} {o : Oper} {a : Act} {Q : Exit → Act → World → Prop} (hgd : o.guard = none) (s x : Operand)
    (ho : o.op = .call { callee := .builtin .append, args := #[s, x], argTypes := #[42, 9] }) (base : Nat)
    (v : Value) (xs : List UInt8) (hs : a.eval s = v) (hown : BRow base xs v w)
    (t : ByteArray) (ys : List UInt8) (ht : t = str ys) (hx : a.eval x = .string t)
    (hbytes : xs.length + ys.length ≤ 140737488355328) (hbase : base ≤ w.heap.size)
    (h : ∀ v' w', BRow base (xs ++ ys) v' w' → Below base w w' → wpList Tryz.prog ops Q rest (a.put o.dst v') w') : wpList Tryz.prog ops Q (o :: rest) a w := by
  obtain ⟨i, hi, hz0, hz1, hz2⟩ := info_parts info_u8
  have e : Lib.strCells (str ys) = bv ys := by simp [Lib.strCells, bv, str]
  refine Lib.wpList_append_own_string w hgd s x 42 9 ho base 5 i Tryz.underlying42 Tryz.underlying9 hi hz0 hz1 hz2 v xs.length (bv xs) hs hown t hx (by rw [ht, str_size]; unfold maxLen; omega) (by rw [ht, str_size]; omega) hbase (fun v' w' h1 h2 _ => h v' w' ?_ ?_)
  · rw [ht, e, str_size] at h1
    unfold BRow; rw [List.length_append]; simpa [bv] using h1
  · exact (Below.refl base w).grown h2 hbase (fun k hk => (hown.lt k hk).1)
end Go.Proofs.YtcachhnhncodoaaGreat
namespace Go.Proofs.YtcachhnhncodoaaGreat
open Go.RowKit
set_option linter.unusedVariables false
def OutRel (B : Nat) (bs : List UInt8) (v : Value) (wr : World) : Prop :=
  (∃ g cap, v = .slice (some ⟨g, 0, none⟩) bs.length cap) ∧ wr.ownsRow B 5 1 v bs.length (bv bs)
theorem encs_le (l : List Nat) : (V.encs l).length ≤ 9 * l.length := by
  induction l with
  | nil => simp [V.encs]
  | cons x l ih => rw [V.encs_cons, List.length_append, V.enc_length, List.length_cons]; have := V.sz_le x; omega
theorem encs_snoc (l : List Nat) (k : Nat) (hk : k < l.length) : V.encs (l.take (k + 1)) = V.encs (l.take k) ++ V.enc (l.getD k 0) := by
  rw [List.take_succ_eq_append_getElem hk, V.encs_append, V.encs_one]
  simp [List.getD, List.getElem?_eq_getElem hk]
theorem news9 (w : World) (c0 c1 c2 c3 c4 c5 c6 c7 c8 k : Nat) (l : List UInt8) (hl : [c0, c1, c2, c3, c4, c5, c6, c7, c8].take k = l.map (·.toNat)) :
    ∀ (j : Nat) (u : Value), (bv l)[j]? = some u → (w.alloc (.cells #[.int .u8 c0, .int .u8 c1, .int .u8 c2, .int .u8 c3, .int .u8 c4, .int .u8 c5, .int .u8 c6, .int .u8 c7, .int .u8 c8] 68)).cell? ((⟨w.heap.size, 0, none⟩ : Addr).add j) = some u := by
  intro j u hj
  have hadd : (⟨w.heap.size, 0, none⟩ : Addr).add j = ⟨w.heap.size, j, none⟩ := by unfold Addr.add; split <;> simp_all
  rw [hadd, World.cell?_alloc_new]
  have e : bv l = ([c0, c1, c2, c3, c4, c5, c6, c7, c8].take k).map fun x : Nat => Value.int .u8 (x : Int) := by
    rw [hl]; simp [bv]
  rw [e, List.getElem?_map, List.getElem?_take] at hj
  split at hj
  · have hlt : j < 9 := by
      rcases Nat.lt_or_ge j 9 with h | h
      · exact h
      · rw [List.getElem?_eq_none (by simpa using h)] at hj; simp at hj
    have : j = 0 ∨ j = 1 ∨ j = 2 ∨ j = 3 ∨ j = 4 ∨ j = 5 ∨ j = 6 ∨ j = 7 ∨ j = 8 := by omega
    rcases this with rfl | rfl | rfl | rfl | rfl | rfl | rfl | rfl | rfl <;> exact hj
  · simp at hj
theorem own_text (B : Nat) (bs : List UInt8) (g cap : Nat) (w : World) (h : w.ownsRow B 5 1 (.slice (some ⟨g, 0, none⟩) bs.length cap) bs.length (bv bs)) :
    (convert 42 9 (.slice (some ⟨g, 0, none⟩) bs.length cap)).run Tryz.prog w = .ok (.string (str bs)) w := by
  rw [← str_of bs]
  refine run_convert_bytes_arg _ 42 5 Tryz.underlying42 Tryz.underlying5 _ 0 bs.length cap _ (by simp) ?_ 9 Tryz.underlying9
  intro i hi
  rw [Nat.zero_add, h.cellAt i (by omega)]
  simp [bv, List.getElem?_eq_getElem hi]
set_option maxHeartbeats 1000000 in
set_option maxRecDepth 100000 in
theorem all_some (b off c : Nat) (l : List Nat) (w : World) (hl : l.length ≤ 1048576) (hx : ∀ x ∈ l, x < 18446744073709551616) (hb : b < w.heap.size)
    (h1 : ∀ i, i < l.length → w.cell? ⟨b, off + i, none⟩ = some (.int .u64 ((l.getD i 0 : Nat) : Int))) :
    Calls Tryz.prog 19 #[.slice (some ⟨b, off, none⟩) l.length c] w (TextPost (V.encs l) w) := by
  obtain ⟨i0, hi, hz0, hz1, hz2⟩ := info_parts info_u8
  have H1 := Lib.hid h1
  have HX := Lib.hid hx
  clear h1 hx
  go_enter Tryz.func19, Tryz.ntmps19
  go_wp2_with (at_make; refine wpList_make_own _ rfl _ _ 42 rfl w.heap.size 5 i0 (.int .u8 0) 1 Tryz.underlying42 hi hz0 hz1 .i64 .i64 _ l.length rfl rfl (by omega) (by rw [hz2]; omega) (by unfold maxLen; omega) (Nat.le_refl _) ?_; intro w0 hown0 hgrow0)
  have hb0 : Below w.heap.size w w0 := (Below.refl _ _).grown hgrow0 (Nat.le_refl _) (fun k hk => by cases hk)
  have hor0 : OutRel w.heap.size (V.encs (l.take 0)) (.slice (some ⟨w.heap.size, 0, none⟩) 0 l.length) w0 := ⟨⟨_, _, rfl⟩, hown0⟩
  clear hown0 hgrow0
  go_loopw [3, 5, 6, 7, 13] (fun v _ _ _ i wr => ∃ k : Nat, k ≤ l.length ∧ i = .int .i64 k ∧ OutRel w.heap.size (V.encs (l.take k)) v wr ∧ Below w.heap.size w wr) (fun _ _ _ _ i _ => l.length - (intOf i).toNat)
  case atStart => exact ⟨0, by omega, rfl, hor0, hb0⟩
  case round =>
    obtain ⟨k, hk, rfl, ⟨⟨g, cap, rfl⟩, hown⟩, hbw⟩ := hrel
    by_cases hlt : k < l.length
    · have hcell : wr.cell? ⟨b, off + k, none⟩ = some (.int .u64 ((l.getD k 0 : Nat) : Int)) := by
        rw [hbw.cell (p := ⟨b, off + k, none⟩) hb]; exact H1.out k hlt
      have hxk := HX.out _ (getD_mem l k hlt)
      have HS := Lib.hid (encs_snoc l k hlt)
      have hel := encs_le (l.take k)
      rw [List.length_take] at hel
      have h9 := V.sz_le (l.getD k 0)
      have hlen := V.enc_length (l.getD k 0)
      generalize l.getD k 0 = n at *
      generalize V.encs (l.take k) = bs at *
      have HLEN := Lib.hid hlen
      clear hlen
      have hsl := fun b w => run_cut9 b w (V.sz n) h9
      go_wp2_with fail
      refine (spell_any n _ hxk).mono ?_
      rintro e w1 ⟨c0, c1, c2, c3, c4, c5, c6, c7, c8, rfl, hl9, hb1⟩
      have hnews := news9 w1 c0 c1 c2 c3 c4 c5 c6 c7 c8 _ _ hl9
      have hown1 := row_below hown hb1
      have HN := Lib.hid hnews
      clear hl9 hnews
      have hw1 : w.heap.size ≤ w1.heap.size := Nat.le_trans hbw.size hb1.size
      have hb01 : Below w.heap.size w w1 := hbw.trans (hb1.mono hbw.size)
      go_wp2_with (at_builtin; refine wpList_append_own _ rfl (.tmp 22) (.tmp 24) 42 rfl w.heap.size 5 i0 (.int .u8 0) 1 1 Tryz.underlying42 hi hz0 hz1 hz2 rfl (by decide) _ bs.length _ rfl (hown1.alloc _) ⟨w1.heap.size, 0, none⟩ (V.sz n) 9 (bv (V.enc n)) rfl (by rw [bv_length, HLEN.out]; omega) HN.out ?c2 ?c3 ?c4 ?c5 ?_)
      case c2 => intro u hu; simp only [bv, List.mem_map] at hu; obtain ⟨x, _, rfl⟩ := hu; rfl
      case c3 => unfold maxLen; omega
      case c4 => omega
      case c5 => simp; omega
      intro v' w2 hown2 hgrow2 hnil
      go_wp2_with fail
      have hlx : (V.encs (l.take (k + 1))).length = bs.length + V.sz n := by rw [HS.out, List.length_append, HLEN.out]
      have h1n := V.sz_ge n
      obtain ⟨g', cap', hv', _, _⟩ := hown2.form (by omega)
      have hrel' : OutRel w.heap.size (V.encs (l.take (k + 1))) v' w2 := by
        refine ⟨⟨g', cap', by rw [hlx]; exact hv'⟩, ?_⟩
        rw [hlx, HS.out]
        simpa [bv] using hown2
      have hbw2 : Below w.heap.size w w2 := (hb01.alloc hw1 _).grown hgrow2 (by simp; omega) (fun k hk => (hown1.lt k hk).1)
      exact ⟨⟨k + 1, by omega, by go_num, hrel', hbw2⟩, by simp [intOf]; omega⟩
    · obtain rfl : k = l.length := by omega
      have htx := own_text _ _ _ _ _ hown
      rw [List.take_length] at htx ⊢
      go_wp2_with fail
      go_ret
      exact ⟨rfl, hbw⟩
set_option maxHeartbeats 400000 in
set_option maxRecDepth 100000 in
theorem all_nil (a : Option Addr) (c : Nat) (w : World) :
    Calls Tryz.prog 19 #[.slice a 0 c] w (TextPost [] w) := by
  obtain ⟨i0, hi, hz0, hz1, hz2⟩ := info_parts info_u8
  go_enter Tryz.func19, Tryz.ntmps19
  go_wp2_with (at_make; refine wpList_make_own _ rfl _ _ 42 rfl w.heap.size 5 i0 (.int .u8 0) 1 Tryz.underlying42 hi hz0 hz1 .i64 .i64 _ 0 rfl rfl rfl (by rw [hz2]; omega) (by unfold maxLen; omega) (Nat.le_refl _) ?_; intro w0 hown0 hgrow0)
  have hb0 : Below w.heap.size w w0 := (Below.refl _ _).grown hgrow0 (Nat.le_refl _) (fun k hk => by cases hk)
  have htx := own_text _ [] _ _ _ hown0
  simp only [List.length_nil] at htx
  refine wp_loop_rounds 1 ?_
  rw [rounds_succ]
  go_wp2_with fail
  go_ret
  exact ⟨rfl, hb0⟩
theorem all_any (a : Option Addr) (c : Nat) (l : List Nat) (w : World) (hl : l.length ≤ 1048576) (hx : ∀ x ∈ l, x < 18446744073709551616) (hu : Nums w w.heap.size a l) :
    Calls Tryz.prog 19 #[.slice a l.length c] w (TextPost (V.encs l) w) := by
  by_cases hn : l = []
  · subst hn; exact all_nil a c w
  · obtain ⟨b, off, rfl, hb, hc⟩ := hu hn
    exact all_some b off c l w hl hx hb hc
end Go.Proofs.YtcachhnhncodoaaGreat
namespace Go.Proofs.YtcachhnhncodoaaGreat
open Go.RowKit
set_option linter.unusedVariables false
set_option maxHeartbeats 400000 in
theorem flongc_any (x : List UInt8) (w : World) :
    Calls Tryz.prog 171 #[.string (str x)] w fun e w' => e = .returned (.bool (long x)) ∧ w = w' := by
  have hs := str_size x
  have HL := Lib.hid (show long x = decide (16 < (str x).size) by rw [hs]; rfl)
  generalize str x = s at *
  clear hs
  go_enter Tryz.func171, Tryz.ntmps171
  go_wp2_with fail
  go_ret
  exact ⟨by rw [HL.out]; simp; omega, rfl⟩
def idxR (l : List (List UInt8)) : Int := if l.findIdx long < l.length then (l.findIdx long : Nat) else -1
set_option maxHeartbeats 1000000 in
set_option maxRecDepth 100000 in
theorem index_long (w : World) (a : Option Addr) (c : Nat) (l : List (List UInt8)) (hl : l.length ≤ 64) (hu : Txts w w.heap.size a l) :
    Calls Tryz.prog 168 #[.slice a l.length c, .func (.func 171) #[] #[]] w fun e w' => e = .returned (.int .i64 (idxR l)) ∧ w = w' := by
  have HU := Lib.hid hu
  have HST := Lib.hid (fun j h => idx_step long l j h)
  have HC := Lib.hid (fun x => show Calls Tryz.prog 171 #[.string (str x)] w (fun e w' => e = .returned (.bool (long x)) ∧ w = w') from flongc_any x w)
  have HI := Lib.hid (show idxR l = if l.findIdx long < l.length then ((l.findIdx long : Nat) : Int) else -1 from rfl)
  generalize idxR l = I at *
  generalize hp : long = p at *
  clear hu hp
  generalize hR : l.findIdx p = R at *
  have HR0 := Lib.hid (show R = 0 + (l.drop 0).findIdx p by rw [← hR]; simp)
  clear hR
  go_enter Tryz.func168, Tryz.ntmps168
  go_wp2_with fail
  go_loop [5, 8] (fun _ i => ∃ j : Nat, j ≤ l.length ∧ i = .int .i64 j ∧ Hid (R = j + (l.drop j).findIdx p)) (fun _ i => l.length - (intOf i).toNat)
  case atStart => exact ⟨0, by omega, rfl, HR0⟩
  case round =>
    obtain ⟨j, hj, rfl, HJ⟩ := hrel
    by_cases hlt : j < l.length
    · obtain ⟨b, off, rfl, hb, hcc⟩ := HU.out (fun e => by rw [e] at hlt; simp at hlt)
      have cj := hcc j hlt
      have hst := HST.out j hlt
      have HCX := Lib.hid (HC.out (l.getD j []))
      generalize l.getD j [] = x at *
      have hjI : (j : Int) < (l.length : Int) := by omega
      by_cases ho : p x = true
      · rw [ho, if_pos rfl] at hst
        rw [ho] at HCX
        have HRJ := Lib.hid (show I = (j : Int) by rw [HI.out, HJ.out, hst, Nat.add_zero, if_pos hlt])
        clear hcc hst ho
        go_wp2_with fail
        refine (HCX.out).mono ?_
        rintro e w1 ⟨rfl, rfl⟩
        go_wp2_with fail
        go_ret
        exact ⟨by rw [HRJ.out]; rfl, rfl⟩
      · have ho' : p x = false := by simpa using ho
        rw [ho', if_neg (by simp)] at hst
        rw [ho'] at HCX
        have HN := Lib.hid (show R = (j + 1) + (l.drop (j + 1)).findIdx p by rw [HJ.out, hst]; omega)
        clear hcc hst ho ho'
        go_wp2_with fail
        refine (HCX.out).mono ?_
        rintro e w1 ⟨rfl, rfl⟩
        go_wp2_with fail
        exact ⟨⟨j + 1, by omega, by go_num, HN⟩, by simp [intOf]; omega⟩
    · obtain rfl : j = l.length := by omega
      have HRE := Lib.hid (show I = -1 by rw [HI.out, HJ.out, List.drop_length, if_neg (by simp)])
      go_wp2_with fail
      go_ret
      exact ⟨by rw [HRE.out]; rfl, rfl⟩
set_option maxHeartbeats 400000 in
theorem contains_long (w : World) (a : Option Addr) (c : Nat) (l : List (List UInt8)) (hl : l.length ≤ 64) (hu : Txts w w.heap.size a l) :
    Calls Tryz.prog 138 #[.slice a l.length c, .func (.func 171) #[] #[]] w fun e w' => e = .returned (.bool (decide (l.findIdx long < l.length))) ∧ w = w' := by
  have HC := Lib.hid (index_long w a c l hl hu)
  have HG := Lib.hid (show decide (0 ≤ idxR l) = decide (l.findIdx long < l.length) by unfold idxR; by_cases h : l.findIdx long < l.length <;> simp [h])
  generalize idxR l = I at *
  clear hu
  go_enter Tryz.func138, Tryz.ntmps138
  go_wp2_with fail
  refine (HC.out).mono ?_
  rintro e w1 ⟨rfl, rfl⟩
  go_wp2_with fail
  go_ret
  exact ⟨by rw [← HG.out]; rfl, rfl⟩
end Go.Proofs.YtcachhnhncodoaaGreat
namespace Go.Proofs.YtcachhnhncodoaaGreat
open Go.RowKit
set_option linter.unusedVariables false
def fwR (l : List (List UInt8)) : List UInt8 × Nat := if fitR l ≠ 0 then ([], 2) else (F.fb [] l, 0)
def FwPost (r : List UInt8 × Nat) (w : World) (e : Ending) (w' : World) : Prop := e = .returned (.tuple #[.string (str r.1), .int .i64 (r.2 : Nat)]) ∧ Below w.heap.size w w'
theorem ffit_zero {l : List (List UInt8)} (h : fitR l = 0) : l.length ≤ 64 ∧ (∀ x ∈ l, x.length ≤ 16) ∧ ¬ l.findIdx long < l.length := by
  unfold fitR at h
  rcases Classical.em (64 < l.length ∨ l.findIdx long < l.length) with hh | hh
  · rw [if_pos hh] at h; exact absurd h (by decide)
  · refine ⟨?_, ?_, fun k => hh (Or.inr k)⟩
    · rcases Nat.lt_or_ge 64 l.length with k | k
      · exact absurd (Or.inl k) hh
      · exact k
    · intro x hx
      rcases Nat.lt_or_ge 16 x.length with k | k
      · exact absurd (Or.inr (List.findIdx_lt_length_of_exists ⟨x, hx, by simp [long, k]⟩)) hh
      · exact k
theorem fb_step (l : List (List UInt8)) (j : Nat) (h : j < l.length) :
    F.fb [] (l.take (j + 1)) = F.fb [] (l.take j) ++ (V.encs [F.sh ((l.take j).getLastD []) (l.getD j []), (l.getD j []).length - F.sh ((l.take j).getLastD []) (l.getD j [])] ++ (l.getD j []).drop (F.sh ((l.take j).getLastD []) (l.getD j []))) := by
  rw [ttake_succ l j h, F.fb_snoc]
  simp [V.encs]
theorem last_step (l : List (List UInt8)) (j : Nat) (h : j < l.length) : (l.take (j + 1)).getLastD [] = l.getD j [] := by
  rw [ttake_succ l j h]; simp
theorem last_len (l : List (List UInt8)) (j : Nat) (hx : ∀ x ∈ l, x.length ≤ 16) : ((l.take j).getLastD []).length ≤ 16 := by
  cases hl : (l.take j).getLast? with
  | none => rw [List.getLastD_eq_getLast?, hl]; simp
  | some x => rw [List.getLastD_eq_getLast?, hl]; exact hx x (List.mem_of_mem_take (List.mem_of_getLast? hl))
theorem fb_bound (l : List (List UInt8)) (last : List UInt8) (hx : ∀ x ∈ l, x.length ≤ 16) : (F.fb last l).length ≤ 18 * l.length := by
  rw [F.fb_length l last hx]
  induction l generalizing last with
  | nil => simp [F.fl]
  | cons x t ih =>
    have h1 := hx x (by simp)
    have h2 := ih x (fun y hy => hx y (by simp [hy]))
    rw [F.fl, List.length_cons]; omega
theorem nums_two (w : World) (n m : Nat) : Nums (w.alloc (.cells #[.int .u64 (n : Int), .int .u64 (m : Int)] 171)) (w.alloc (.cells #[.int .u64 (n : Int), .int .u64 (m : Int)] 171)).heap.size (some ⟨w.heap.size, 0, none⟩) [n, m] := by
  intro _
  refine ⟨w.heap.size, 0, rfl, by simp, fun i hi => ?_⟩
  rw [Nat.zero_add, World.cell?_alloc_new]
  have : i = 0 ∨ i = 1 := by simp at hi; omega
  rcases this with rfl | rfl <;> rfl
set_option maxHeartbeats 1000000 in
set_option maxRecDepth 100000 in
theorem fwrite_ok (a : Option Addr) (c : Nat) (l : List (List UInt8)) (w : World) (hf : fitR l = 0) (hu : Txts w w.heap.size a l) :
    Calls Tryz.prog 141 #[.slice a l.length c] w (FwPost (fwR l) w) := by
  obtain ⟨hl, hx, hni⟩ := ffit_zero hf
  have HU := Lib.hid hu
  have HX := Lib.hid hx
  have HR := Lib.hid (show fwR l = (F.fb [] l, 0) by unfold fwR; rw [hf]; rfl)
  have hct := contains_long w a c l hl hu
  rw [decide_eq_false hni] at hct
  have HC := Lib.hid hct
  have HFS := Lib.hid (fun j h => fb_step l j h)
  have HLS := Lib.hid (fun j h => last_step l j h)
  have HLL := Lib.hid (fun j => last_len l j hx)
  have HFB := Lib.hid (fun j => fb_bound (l.take j) [] (fun x h => hx x (List.mem_of_mem_take h)))
  have HGM := Lib.hid (fun j (h : j < l.length) => hx _ (tgetD_mem l j h))
  have g1 : decide ((64 : Int) < (l.length : Int)) = false := decide_eq_false (by omega)
  clear hx hu hct hni hf
  go_enter Tryz.func141, Tryz.ntmps141
  go_wp2_with fail
  refine (HC.out).mono ?_
  rintro e w1 ⟨rfl, rfl⟩
  go_wp2_with fail
  go_loopw [5, 6, 8, 9, 10, 21] (fun v b _ _ _ i wr => ∃ j : Nat, j ≤ l.length ∧ i = .int .i64 j ∧ b = .string (str ((l.take j).getLastD [])) ∧ BRow w.heap.size (F.fb [] (l.take j)) v wr ∧ Below w.heap.size w wr) (fun _ _ _ _ _ i _ => l.length - (intOf i).toNat)
  case atStart => exact ⟨0, by omega, rfl, rfl, BRow.nil_ _ _, Below.refl _ _⟩
  case round =>
    obtain ⟨j, hj, rfl, rfl, hbr, hbw⟩ := hrel
    by_cases hlt : j < l.length
    · obtain ⟨b, off, rfl, hb, hcc⟩ := HU.out (fun e => by rw [e] at hlt; simp at hlt)
      have cj := (hbw.cell (p := ⟨b, off + j, none⟩) hb).trans (hcc j hlt)
      have HS := Lib.hid (HFS.out j hlt)
      have HL := Lib.hid (HLS.out j hlt)
      have hll := HLL.out j
      have hxl := HGM.out j hlt
      have hfb := HFB.out j
      rw [List.length_take] at hfb
      generalize l.getD j [] = x at *
      generalize (l.take j).getLastD [] = y at *
      generalize F.fb [] (l.take j) = acc at *
      have HSH := Lib.hid (fun W => shared_any y x W (by unfold maxLen; omega) (by unfold maxLen; omega))
      have hnx := F.sh_le_right y x
      generalize F.sh y x = n at *
      have hsx := str_size x
      obtain ⟨X, hX⟩ : ∃ X, X = str x := ⟨_, rfl⟩
      rw [← hX] at hsx HSH cj
      have HXT := Lib.hid (show X.extract n X.size = str (x.drop n) by
        apply ByteArray.ext; apply Array.toList_inj.mp
        rw [show (X.extract n X.size).data.toList = X.data.toList.drop n from cut_data X n, hX]; rfl)
      generalize str y = Y at *
      have HXX := Lib.hid hX
      clear hX hcc
      have hjI : (j : Int) < (l.length : Int) := by omega
      have hcast : (X.size : Int) - (n : Int) = ((x.length - n : Nat) : Int) := by omega
      have hnX : n ≤ X.size := by omega
      have hX16 : X.size ≤ 16 := by omega
      have hnI : (n : Int) ≤ (X.size : Int) := by omega
      have HCA := Lib.hid hcast
      clear hsx hcast
      go_wp2_with fail
      refine (HSH.out _).mono ?_
      rintro e w2 ⟨rfl, hd⟩
      have hb2 : Below wr.heap.size wr w2 := by obtain ⟨d, rfl⟩ := hd; exact below_drewN (Below.refl _ _) _
      clear hd
      go_wp2_with fail
      have hnn := nums_two w2 n (x.length - n)
      have hal := all_any _ 2 [n, x.length - n] _ (by simp) (by intro z hz; simp at hz; rcases hz with rfl | rfl <;> omega) hnn
      have hel : (V.encs [n, x.length - n]).length ≤ 18 := by have := encs_le [n, x.length - n]; simpa using this
      rw [HCA.out]
      clear hnn
      generalize V.encs [n, x.length - n] = et at *
      refine Calls.mono hal ?_
      rintro e w3 ⟨rfl, hb3⟩
      have hs2 := hb2.size
      have hsw := hbw.size
      have hs3 := hb3.size
      simp at hs3
      have hA : Below w.heap.size wr w3 := ((hb2.mono hsw).alloc (by omega) _).trans (hb3.mono (by simp; omega))
      have hbr3 : BRow w.heap.size acc u5 w3 := (hbr.below hb2).alloc_ _ |>.below hb3
      have hsz3 : w.heap.size ≤ w3.heap.size := by omega
      have HBR3 := Lib.hid hbr3
      have HXN := Lib.hid HXT
      clear hbr hbr3 hb3 hal
      go_wp2_with (at_builtin; refine wpList_append_texts rfl (.tmp 36) (.tmp 38) rfl w.heap.size _ acc rfl HBR3.out (str et) et rfl rfl (by omega) hsz3 ?_)
      intro v5 w5 hbr5 hlow5
      have hB : Below w.heap.size wr w5 := hA.trans hlow5
      have HBR5 := Lib.hid hbr5
      have hsz5 : w.heap.size ≤ w5.heap.size := by have := hlow5.size; omega
      clear hbr5
      go_wp2_with (at_builtin; refine wpList_append_texts rfl (.tmp 40) (.tmp 43) rfl w.heap.size _ (acc ++ et) rfl HBR5.out _ (x.drop n) HXT.out rfl ?_ hsz5 ?_)
      · rw [List.length_append, List.length_drop]; omega
      intro v6 w6 hbr6 hlow6
      have HBR6 := Lib.hid hbr6
      clear hbr6
      go_wp2_with fail
      exact ⟨⟨j + 1, by omega, by go_num, by rw [HL.out, ← HXX.out], by rw [HS.out]; exact HBR6.out, hbw.trans (hB.trans hlow6)⟩, by simp [intOf]; omega⟩
    · obtain rfl : j = l.length := by omega
      rw [List.take_length] at hbr
      have ht := hbr.text
      clear hbr
      go_wp2_with fail
      go_ret2
      exact ⟨by rw [HR.out]; rfl, hbw⟩
set_option maxHeartbeats 400000 in
theorem fwrite_bad (a : Option Addr) (c : Nat) (l : List (List UInt8)) (w : World) (hf : fitR l ≠ 0) (hu : Txts w w.heap.size a l) :
    Calls Tryz.prog 141 #[.slice a l.length c] w (FwPost (fwR l) w) := by
  have HR := Lib.hid (show fwR l = ([], 2) by unfold fwR; rw [if_pos hf])
  by_cases h : 64 < l.length
  · have g1 : decide ((64 : Int) < (l.length : Int)) = true := decide_eq_true (by omega)
    clear hu hf
    go_enter Tryz.func141, Tryz.ntmps141
    go_wp2_with fail
    go_ret2
    exact ⟨by rw [HR.out]; rfl, Below.refl _ _⟩
  · have hct := contains_long w a c l (by omega) hu
    have hi : l.findIdx long < l.length := by
      rcases Nat.lt_or_ge (l.findIdx long) l.length with k | k
      · exact k
      · exact absurd (show fitR l = 0 by unfold fitR; rw [if_neg (by omega)]) hf
    rw [decide_eq_true hi] at hct
    have HC := Lib.hid hct
    have g1 : decide ((64 : Int) < (l.length : Int)) = false := decide_eq_false (by omega)
    clear hct hi hf hu
    go_enter Tryz.func141, Tryz.ntmps141
    go_wp2_with fail
    refine (HC.out).mono ?_
    rintro e w1 ⟨rfl, rfl⟩
    go_wp2_with fail
    go_ret2
    exact ⟨by rw [HR.out]; rfl, Below.refl _ _⟩
theorem fwrite_any (a : Option Addr) (c : Nat) (l : List (List UInt8)) (w : World) (hu : Txts w w.heap.size a l) :
    Calls Tryz.prog 141 #[.slice a l.length c] w (FwPost (fwR l) w) := by
  by_cases hf : fitR l = 0
  · exact fwrite_ok a c l w hf hu
  · exact fwrite_bad a c l w hf hu
end Go.Proofs.YtcachhnhncodoaaGreat
namespace Go.Proofs.YtcachhnhncodoaaGreat
open Go.RowKit
set_option linter.unusedVariables false
theorem ks_drew {b o : Nat} {X : Value} {w W : World} (h : W.cell? ⟨b, o, none⟩ = some X ∧ Below w.heap.size w W) : W.drew.cell? ⟨b, o, none⟩ = some X ∧ Below w.heap.size w W.drew := ⟨h.1, h.2.drew⟩
theorem ks_below {b o : Nat} {X : Value} {w W W' : World} (hb : Below W.heap.size W W') (h : W.cell? ⟨b, o, none⟩ = some X ∧ Below w.heap.size w W) : W'.cell? ⟨b, o, none⟩ = some X ∧ Below w.heap.size w W' :=
  ⟨(hb.cell (p := ⟨b, o, none⟩) (by
    rcases Nat.lt_or_ge b W.heap.size with hlt | hge
    · exact hlt
    · have := h.1; simp [World.cell?, Array.getElem?_eq_none hge] at this)).trans h.1, below_then h.2 hb⟩
set_option maxHeartbeats 2000000 in
set_option maxRecDepth 100000 in
theorem fbytes_any (a : Option Addr) (c : Nat) (l : List (List UInt8)) (w : World) (hf : fitR l = 0) (hu : Txts w w.heap.size a l) :
    Calls Tryz.prog 105 #[.slice a l.length c] w (TextPost (F.fb [] l) w) := by
  obtain ⟨hl, hx, _⟩ := ffit_zero hf
  have HU := Lib.hid hu
  have HFS := Lib.hid (fun j h => fb_step l j h)
  have HLL := Lib.hid (fun j => last_len l j hx)
  have HFB := Lib.hid (fun j => fb_bound (l.take j) [] (fun x h => hx x (List.mem_of_mem_take h)))
  have HGM := Lib.hid (fun j (h : j < l.length) => hx _ (tgetD_mem l j h))
  have HLP := Lib.hid (fun j (h : j < l.length) (h1 : 0 < j) => show (l.take j).getLastD [] = l.getD (j - 1) [] by
    have := last_step l (j - 1) (by omega); rwa [show j - 1 + 1 = j by omega] at this)
  clear hx hu hf
  go_enter Tryz.func105, Tryz.ntmps105
  go_wp2_with fail
  go_loopw [3, 4, 5] (fun t i _ wr => ∃ j : Nat, j ≤ l.length ∧ i = .int .i64 j ∧ t = .string (str (F.fb [] (l.take j))) ∧ Below w.heap.size w wr) (fun _ i _ _ => l.length - (intOf i).toNat)
  case atStart => exact ⟨0, by omega, rfl, rfl, Below.refl _ _⟩
  case round =>
    obtain ⟨j, hj, rfl, rfl, hbw⟩ := hrel
    by_cases hlt : j < l.length
    · obtain ⟨b, off, rfl, hb, hcc⟩ := HU.out (fun e => by rw [e] at hlt; simp at hlt)
      have cj := (hbw.cell (p := ⟨b, off + j, none⟩) hb).trans (hcc j hlt)
      have HS := Lib.hid (HFS.out j hlt)
      have hll := HLL.out j
      have hxl := HGM.out j hlt
      have hfb := HFB.out j
      rw [List.length_take] at hfb
      by_cases h0 : j = 0
      · subst h0
        have h0s : F.sh ((l.take 0).getLastD []) (l.getD 0 []) = 0 := F.sh_nil_left _
        rw [h0s, Nat.sub_zero, List.drop_zero] at HS
        generalize l.getD 0 [] = x at *
        have hsx := str_size x
        obtain ⟨X, hX⟩ : ∃ X, X = str x := ⟨_, rfl⟩
        rw [← hX, Nat.add_zero] at cj
        rw [← hX] at hsx
        obtain ⟨tc, htc⟩ : ∃ tc, tc = str (F.fb [] (l.take 0)) := ⟨_, rfl⟩
        have hs0 : tc.size ≤ 1152 := by rw [htc, str_size]; omega
        rw [← htc]
        have hX16 : X.size ≤ 16 := by omega
        obtain ⟨m, hm⟩ : ∃ m, m = X.size := ⟨_, rfl⟩
        have hm2 : x.length = m := by omega
        rw [hm2] at HS
        obtain ⟨tx, htx⟩ : ∃ tx : Nat → ByteArray, tx = fun k => str (V.enc k) := ⟨_, rfl⟩
        have HV := Lib.hid (fun (k : Nat) W (hk : k < 18446744073709551616) => show Calls Tryz.prog 15 #[.int .u64 (k : Int)] W (fun e w' => e = .returned (.string (tx k)) ∧ Below W.heap.size W w') by rw [htx]; exact vbytes_any k W hk)
        have HV0 := Lib.hid (fun W => show Calls Tryz.prog 15 #[.int .u64 (0 : Int)] W (fun e w' => e = .returned (.string (tx 0)) ∧ Below W.heap.size W w') from HV.out 0 W (by omega))
        have ha1 : (tx 0).size ≤ 9 := by rw [htx]; simp only; rw [str_size, V.enc_length]; exact V.sz_le _
        have ha2 : (tx X.size).size ≤ 9 := by rw [htx]; simp only; rw [str_size, V.enc_length]; exact V.sz_le _
        have hcat1 : ¬ 9223372036854775807 < (tx 0).size + (tx X.size).size := by omega
        have hcat2 : ¬ 9223372036854775807 < (tx 0).size + (tx X.size).size + X.size := by omega
        have hcat3 : ¬ 9223372036854775807 < tc.size + ((tx 0).size + (tx X.size).size + X.size) := by omega
        have HSUM := Lib.hid (show tc ++ (tx 0 ++ tx X.size ++ X) = str (F.fb [] (l.take (0 + 1))) by
          rw [HS.out, htc, htx, ← hm, hX]
          simp only [str_append]
          simp [V.encs])
        have hw0 : IntKind.u64.wrap (0 : Int) = ((0 : Nat) : Int) := by decide
        have hw2 : IntKind.i64.wrap (X.size : Int) = (X.size : Int) := by rw [IntKind.wrap_i64]; omega
        have hw3 : IntKind.u64.wrap (X.size : Int) = (X.size : Int) := by rw [IntKind.wrap_u64]; omega
        have hi5 : (0 : Int) < (l.length : Int) := by omega
        have hXI : (0 : Int) ≤ (X.size : Int) := by omega
        have hex : X.extract 0 X.size = X := by simp
        clear hsx hX htc hcc hm htx hm2
        go_wp2_with fail
        go_region_held3 (fun W => W.cell? ⟨b, off, none⟩ = some (.string X) ∧ Below w.heap.size w W)
          (first
            | (refine ks_drew ?_; first | assumption | (refine ⟨?_, ?_⟩ <;> assumption))
            | (refine ks_below hb3 ?_; first | assumption | (refine ⟨?_, ?_⟩ <;> assumption)))
          (first
            | (go_at_call 15; refine (HV.out _ _ (by omega)).mono ?_; rintro e w3 ⟨rfl, hb3⟩)
            | (go_at_call 15; refine (HV0.out _).mono ?_; rintro e w3 ⟨rfl, hb3⟩))
        all_goals
          go_wp2_with fail
          exact ⟨⟨1, by omega, by go_num, by rw [← HSUM.out], (show _ ∧ Below w.heap.size w w3 by assumption).2⟩, by simp [intOf]; omega⟩
      · have hcp := (hbw.cell (p := ⟨b, off + (j - 1), none⟩) hb).trans (hcc (j - 1) (by omega))
        rw [← HLP.out j hlt (by omega)] at hcp
        generalize l.getD j [] = x at *
        generalize (l.take j).getLastD [] = y at *
        have hsx := str_size x
        have HSH := Lib.hid (fun W => sharedOf_any y x W (by unfold maxLen; omega) (by unfold maxLen; omega))
        have hnx := F.sh_le_right y x
        generalize F.sh y x = n at *
        generalize str y = Y at *
        obtain ⟨X, hX⟩ : ∃ X, X = str x := ⟨_, rfl⟩
        rw [← hX] at hsx HSH cj
        obtain ⟨tc, htc⟩ : ∃ tc, tc = str (F.fb [] (l.take j)) := ⟨_, rfl⟩
        have hs0 : tc.size ≤ 1152 := by rw [htc, str_size]; omega
        rw [← htc]
        have hcast : (X.size : Int) - (n : Int) = ((x.length - n : Nat) : Int) := by omega
        have hnX : n ≤ X.size := by omega
        have hX16 : X.size ≤ 16 := by omega
        have hnI : (n : Int) ≤ (X.size : Int) := by omega
        have hm16 : x.length - n ≤ 16 := by omega
        obtain ⟨m, hm⟩ : ∃ m, m = x.length - n := ⟨_, rfl⟩
        rw [← hm] at hcast hm16 HS
        obtain ⟨t1, ht1⟩ : ∃ t1, t1 = str (V.enc n) := ⟨_, rfl⟩
        obtain ⟨t2, ht2⟩ : ∃ t2, t2 = str (V.enc m) := ⟨_, rfl⟩
        have hs1 : t1.size ≤ 9 := by rw [ht1, str_size, V.enc_length]; exact V.sz_le _
        have hs2 : t2.size ≤ 9 := by rw [ht2, str_size, V.enc_length]; exact V.sz_le _
        obtain ⟨tx, htx⟩ : ∃ tx : Nat → ByteArray, tx = fun k => str (V.enc k) := ⟨_, rfl⟩
        have HV := Lib.hid (fun (k : Nat) W (hk : k < 18446744073709551616) => show Calls Tryz.prog 15 #[.int .u64 (k : Int)] W (fun e w' => e = .returned (.string (tx k)) ∧ Below W.heap.size W w') by rw [htx]; exact vbytes_any k W hk)
        have HT1 := Lib.hid (show t1 = tx n by rw [htx]; exact ht1)
        have HT2 := Lib.hid (show t2 = tx m by rw [htx]; exact ht2)
        have ha1 : (tx n).size ≤ 9 := by rw [← HT1.out]; exact hs1
        have ha2 : (tx m).size ≤ 9 := by rw [← HT2.out]; exact hs2
        have hcat1 : ¬ 9223372036854775807 < (tx n).size + (tx m).size := by omega
        have hcat2 : ¬ 9223372036854775807 < (tx n).size + (tx m).size + (X.size - n) := by omega
        have hcat3 : ¬ 9223372036854775807 < tc.size + ((tx n).size + (tx m).size + (X.size - n)) := by omega
        have HSUM := Lib.hid (show tc ++ (tx n ++ tx m ++ X.extract n X.size) = str (F.fb [] (l.take (j + 1))) by
          have he : X.extract n X.size = str (x.drop n) := by
            apply ByteArray.ext; apply Array.toList_inj.mp
            rw [show (X.extract n X.size).data.toList = X.data.toList.drop n from cut_data X n, hX]; rfl
          rw [he, HS.out, htc, htx, str_append, str_append, str_append]
          simp [V.encs])
        have hi1 : IntKind.i64.wrap ((j : Int) - 1) = (j : Int) - 1 := by rw [IntKind.wrap_i64]; omega
        have hi2 : (0 : Int) ≤ (j : Int) - 1 := by omega
        have hi3 : ((j : Int) - 1).toNat = j - 1 := by omega
        have hi4 : (j : Int) - 1 < (l.length : Int) := by omega
        have hi5 : (j : Int) < (l.length : Int) := by omega
        have hi6 : (1 : Int) ≤ (j : Int) := by omega
        have g0 : decide ((0 : Int) < (j : Int)) = true := decide_eq_true (by omega)
        have hw1 : IntKind.u64.wrap (n : Int) = (n : Int) := by rw [IntKind.wrap_u64]; omega
        have hw2 : IntKind.i64.wrap (m : Int) = (m : Int) := by rw [IntKind.wrap_i64]; omega
        have hw3 : IntKind.u64.wrap (m : Int) = (m : Int) := by rw [IntKind.wrap_u64]; omega
        clear hsx hX htc ht1 ht2 hcc hm htx
        go_wp2_with fail
        go_quiet ((go_at_call 127; exact Calls.quiet_of (HSH.out _)))
        go_wp2_with fail
        obtain ⟨W0, hW0⟩ : ∃ W0, W0 = wr.drewN nq := ⟨_, rfl⟩
        have cj0 : W0.cell? ⟨b, off + j, none⟩ = some (.string X) := by rw [hW0]; exact cj
        have hbw0 : Below w.heap.size w W0 := by rw [hW0]; exact below_drewN hbw _
        rw [← hW0]
        clear hW0 cj hcp hbw
        go_region_held3 (fun W => W.cell? ⟨b, off + j, none⟩ = some (.string X) ∧ Below w.heap.size w W)
          (first
            | (refine ks_drew ?_; first | assumption | (refine ⟨?_, ?_⟩ <;> assumption))
            | (refine ks_below hb3 ?_; first | assumption | (refine ⟨?_, ?_⟩ <;> assumption)))
          (first
            | (go_at_call 15; refine (HV.out _ _ (by omega)).mono ?_; rintro e w3 ⟨rfl, hb3⟩))
        all_goals
          go_wp2_with fail
          exact ⟨⟨j + 1, by omega, by go_num, by rw [← HSUM.out], (show _ ∧ Below w.heap.size w w3 by assumption).2⟩, by simp [intOf]; omega⟩
    · obtain rfl : j = l.length := by omega
      rw [List.take_length]
      go_wp2_with fail
      go_ret
      exact ⟨rfl, hbw⟩
end Go.Proofs.YtcachhnhncodoaaGreat
namespace Go.Proofs.YtcachhnhncodoaaGreat
open Go.RowKit
set_option linter.unusedVariables false
structure WB (w0 : World) where
  w : World
  below : Below w0.heap.size w0 w
instance wbHas (w0 : World) : Nonempty (WB w0) := ⟨⟨w0, Below.refl _ _⟩⟩
theorem WB.cell {w0 : World} (p : WB w0) {b o : Nat} {v : Value} (hb : b < w0.heap.size) (h : w0.cell? ⟨b, o, none⟩ = some v) : p.w.cell? ⟨b, o, none⟩ = some v := (p.below.cell (p := ⟨b, o, none⟩) hb).trans h
theorem wp_region_wb {P : Program} {id : Nat} {Q : Exit → Act → World → Prop} {a : Act} {w : World} {l : List Oper} (hm : P.follows .mixedOrders = true) (hB : Region.lexB .any l.toArray = true)
    (h : wpQuiet P l.toArray (fun w' => ∃ p : WB w, w' = p.w) (fun a' => ∀ w', (∃ p : WB w, w' = p.w) → Q .normal a' w') l a) : (Code.region id l.toArray true).wp P Q a w :=
  wp_region_quiet (C := fun w' => ∃ p : WB w, w' = p.w) hm hB ⟨⟨_, (Below.refl w.heap.size w).drew⟩, rfl⟩ (by simpa using h)
theorem calls_wb {P : Program} {f : FuncId} {args : Array Value} {w0 : World} {p : WB w0} {v : Value} (h : Calls P f args p.w fun e w' => e = .returned v ∧ Below p.w.heap.size p.w w') :
    Calls P f args p.w fun e w'' => e = .returned v ∧ ∃ p' : WB w0, w'' = p'.w := h.mono fun _ _ ⟨he, hb⟩ => ⟨he, ⟨_, below_then p.below hb⟩, rfl⟩
structure Veil (p : Prop) : Prop where
  out : p
theorem wq_step {P : Program} {ops : Array Oper} {C : World → Prop} {Q : Act → Prop} {a : Act} {o : Oper} {rest : List Oper}
    (h : ∀ K : Act → Prop, (∀ a, Veil (wpQuiet P ops C Q rest a) → K a) → if Region.wanted o (yielded ops a.tmps) then o.quiet P a C K else K (a.put o.dst undef)) : Veil (wpQuiet P ops C Q (o :: rest) a) :=
  ⟨wpQuiet_step fun K hK => h K fun a k => hK a k.out⟩
theorem wq_nil {P : Program} {ops : Array Oper} {C : World → Prop} {Q : Act → Prop} {a : Act} (h : Q a) : Veil (wpQuiet P ops C Q [] a) := ⟨wpQuiet_nil h⟩
theorem wp_region_wbh {P : Program} {id : Nat} {Q : Exit → Act → World → Prop} {a : Act} {w : World} {l : List Oper} (hm : P.follows .mixedOrders = true) (hB : Region.lexB .any l.toArray = true)
    (h : Veil (wpQuiet P l.toArray (fun w' => ∃ p : WB w, w' = p.w) (fun a' => ∀ w', (∃ p : WB w, w' = p.w) → Q .normal a' w') l a)) : (Code.region id l.toArray true).wp P Q a w :=
  wp_region_wb hm hB h.out
end Go.Proofs.YtcachhnhncodoaaGreat
